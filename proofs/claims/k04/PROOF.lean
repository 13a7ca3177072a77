import PyProof.Rows.All
import Wide.All
import OpenK.AllK
import Wide.FinOn
import KE.KStateDown
import Lean
import HandS.ForMost
import HandS.Codes
import HandS.Wide
import HandS.IsInst
import HandS.Style
import HandS.Steps
import HandS.Defaults
import HandS.EndBits
import HandS.Head0
import HandS.Head1
import HandS.Head2
import HandS.HeadEnd
import HandS.HeadHook1
import HandS.HeadHook2
import HandS.HeadHook3
import HandS.HeadHook4
import HandS.CallLocal
import KE.KBits
import KE.KSortedM
import PySem.Challenge.RW_warycard_k04_whole_words_are_numbers_by
set_option Elab.async false
set_option linter.all false
set_option maxRecDepth 100000
set_option maxHeartbeats 4000000
/-! What the proofs of several laws share: defs by their facts, wide products, the drawing bag. -/
namespace Wc
open PySem PySem.Spec PyProof.Rows L2
open C8 (Cal pe_c pe_gc)

/-- a def of the row's top, where it stands -/
abbrev FnP (K : PySem.W.Frag) (x : Str) (st : Stmt) (f : Addr) (fd : FuncData) : Prop :=
  FunD K x x (defArgs st) (defBody st) (defScope st) [] [] f fd
/-- a def's promise, by its body's term and the reading of it -/
theorem fnD {P : Program} {w : World} {K : PySem.W.Frag} {mg : Str → Option Value} {base : Heap} {x : Str} {st : Stmt} {ps N : List Str} {k : Nat} {sp : Sp} {fd : FuncData}
    (F : FnP K x st (He.ga K x) fd) (S : FnScope N ps (defScope st)) (len : ∀ vs H Q E, sp vs H Q E → vs.length = ps.length)
    (body : ∀ (cdv : Value) (A : Around) (outer : List Env) (s : Shared) (H : Hp) (vs : List V) (Q : VK) (E : XK),
      Room k (A.deeper (envOfC x (defScope st) s.heap.objs.size (He.ga K x) cdv)) → sp vs H Q E →
      ∃ t, PSs (cxOf CX0 P w K mg base N x (defScope st) (He.ga K x) cdv A outer s H E).nox (defBody st) t ∧
        t { nx := fun _ H' => Q .non H', rt := Q } (start N vs) H) : FnOk P w K mg base CX0 (k + 1) (He.ga K x) fd ps sp := by
  refine F.ok S len fun cdv A outer s H vs Q E hr hs => ?_
  obtain ⟨t, h, q⟩ := body cdv A outer s H vs Q E hr hs
  exact ⟨t, PSs.nox h, q⟩
theorem calD {P : Program} {w : World} {K : PySem.W.Frag} {mg : Str → Option Value} {base : Heap} {x : Str} {st : Stmt} {ps N : List Str} {k : Nat} {sp : Sp}
    (F : ∃ fd, FnP K x st (He.ga K x) fd) (g : mg x = some (.ref (He.ga K x)))
    (b : ∀ (kV doc pm : Value) (an : Option Addr) (cdv ct : Value) (us : List Value), us.length = ps.length →
      bindArgs (PySem.W.fnOf x x (defArgs st) (defBody st) (defScope st) .none kV doc pm an cdv ct) ⟨us, []⟩ = pure (ps.zip us))
    (S : FnScope N ps (defScope st)) (len : ∀ vs H Q E, sp vs H Q E → vs.length = ps.length)
    (body : ∀ (cdv : Value) (A : Around) (outer : List Env) (s : Shared) (H : Hp) (vs : List V) (Q : VK) (E : XK),
      Room k (A.deeper (envOfC x (defScope st) s.heap.objs.size (He.ga K x) cdv)) → sp vs H Q E →
      ∃ t, PSs (cxOf CX0 P w K mg base N x (defScope st) (He.ga K x) cdv A outer s H E).nox (defBody st) t ∧
        t { nx := fun _ H' => Q .non H', rt := Q } (start N vs) H) : Cal P w K mg base (k + 1) x sp [] := by
  obtain ⟨fd, F⟩ := F
  exact ⟨He.ga K x, fd, ps, [], fnD F S len body, g, F.kp, F.bindsN b, .nil⟩
theorem ifB {c : Bool} {A B : Prop} (h : c = true → A) (g : c = false → B) : if c = true then A else B := by
  cases c with
  | true => exact iteT (h rfl)
  | false => exact iteF (g rfl)
theorem ifNo {c : Bool} {A B : Prop} (h : c = false) (b : B) : if c = true then A else B := by
  rw [h]
  exact iteF b
theorem ifYes {c : Bool} {A B : Prop} (h : c = true) (a : A) : if c = true then A else B := by
  rw [h]
  exact iteT a
/-- two values that are the same do not differ -/
theorem neqF {x y : V} {A B : Prop} (h : x = y) (b : B) : if (!decide (x = y)) = true then A else B := by
  rw [decide_eq_true h]
  exact iteF b
/-- a built-in class as a value -/
theorem pe_ty {X : Cx} {x : Str} {pos : Pos} (n : String) (hg : Gl X x) (hm : X.mg x = none) (hv : bootBuiltins x = some (.type n)) (hn : x ≠ "__name__" := by decide) (hd : (x == ("__debug__" : Str)) = false := by decide) :
    PE X (.Name x pos) (tC (.ty n)) := pe_bltn hg hm hv (show RelV (.ty n) (.type n) from rfl) hn hd
/-- from a law's promise to what the row's end asks -/
theorem lawD {P : Program} {w : World} {K : PySem.W.Frag} {mg : Str → Option Value} {st : Stmt} {k : Nat} {sp : Sp} {fa : Addr}
    (F : ∃ fd, FnP K "law" st (He.ga K "law") fd) (g : mg "law" = some (.ref (He.ga K "law"))) (h : mg "law" = some (.ref fa))
    (c : ∀ (base : Heap) (fd : FuncData), FnP K "law" st (He.ga K "law") fd → FnOk P w K mg base CX0 k (He.ga K "law") fd ["script"] sp)
    (b : ∀ (kV doc pm : Value) (an : Option Addr) (cdv ct : Value) (us : List Value), us.length = (["script"] : List Str).length →
      bindArgs (PySem.W.fnOf "law" "law" (defArgs st) (defBody st) (defScope st) .none kV doc pm an cdv ct) ⟨us, []⟩ = pure ((["script"] : List Str).zip us))
    (hsp : ∀ (H : Hp) (a : Addr) (ns : List Int), ns.length ≤ 63 → (∀ z ∈ ns, Builtin.Int.intBits z ≤ 1048576) → SqL K H a (ns.map V.int) → sp [.ref a] H (fun v _ => v = .bl true) fun _ _ _ => False) :
    ∃ (fd : FuncData) (sp : Sp), (∀ (s : Shared) (u : Value), BindsTo s fd ⟨[u], []⟩ [("script", u)]) ∧
      (∀ (H : Hp) (a : Addr) (ns : List Int), ns.length ≤ 63 → (∀ z ∈ ns, Builtin.Int.intBits z ≤ 1048576) → SqL K H a (ns.map V.int) → sp [.ref a] H (fun v _ => v = .bl true) fun _ _ _ => False) ∧
      ∀ base : Heap, K.In base → base.Ns mainGlobals mg → FnOk P w K mg base CX0 k fa fd ["script"] sp := by
  obtain ⟨fd, F⟩ := F
  have e : He.ga K "law" = fa := by
    have z := g.symm.trans h
    injection z with z
    injection z with z
  subst e
  exact ⟨fd, sp, fun s u => F.bindsA (ps := ["script"]) b s [u] rfl, hsp, fun base _ _ => c base fd F⟩
/-- an object of the module's as a value -/
theorem pe_gref {X : Cx} {x : Str} {pos : Pos} {a : Addr} (hg : Gl X x) (hm : X.mg x = some (.ref a)) (hd : (x == ("__debug__" : Str)) = false := by decide) : PE X (.Name x pos) (tC (.ref a)) :=
  pe_glob hg hm (show RelV (.ref a) (.ref a) from rfl) hd
theorem int_rel {i : Int} {o : Option Value} (h : ∃ t, o = some (.int i t)) : ∃ u, o = some u ∧ RelV (.int i) u := by
  obtain ⟨t, e⟩ := h
  exact ⟨_, e, t, rfl⟩
theorem str_rel {z : Str} {o : Option Value} (h : ∃ t, o = some (.str z t)) : ∃ u, o = some u ∧ RelV (.str z) u := by
  obtain ⟨t, e⟩ := h
  exact ⟨_, e, t, rfl⟩
theorem kdct_of {K : PySem.W.Frag} {w : World} {a : Addr} {kvs : List (Str × He.Dv)} (h : ∃ es n, KDict K w a es n) (v : He.valsB K a kvs = true) : ∀ q ∈ kvs, KDct K w a q.1 (q.2.v K) := fun q hq => by
  obtain ⟨es, n, D⟩ := h
  obtain ⟨u, e, r⟩ := He.valsB_ok v hq
  exact ⟨es, n, u, D.at_, D.lit, e, r⟩
/-- a call of a local name that holds the def called y -/
theorem pe_loc {X : Cx} {k j i : Nat} {y x : Str} {f : Addr} {sp : Sp} {p pos : Pos} {e : Expr} {es : List Expr} {t : TA} (g : X.mg y = some (.ref f)) (c : Cal X.prog X.w X.K X.mg X.base k y sp []) (hr : Room j X.A) (hk : k ≤ j)
    (hN : X.N[i]? = some x) (hv : Vis X.env.scope x) (ha : PA X (e :: es) t)
    (hdb : (x == ("__debug__" : Str)) = false := by decide) (hcd : (x == ("__classdict__" : Str)) = false := by decide)
    (he : starEach (e :: es) X.env = (false, eval e X.env) :: starEach es X.env := by rfl) (hpl : (backTo pos (starEach es X.env)).any (·.1) = false := by rfl) :
    PE X (.Call (.Name x p) (e :: es) [] pos) (tCallL i f sp [] E0 t) := by
  obtain ⟨f', fd, ps, ds, F, hm, kp, b, d⟩ := c.ex
  have e2 : f' = f := by
    have z := hm.symm.trans g
    injection z with z
    injection z
  subst e2
  exact pe_callL F (hr.mono hk) hN hv kp b d pass0 ha hdb hcd he hpl
/-! ### within a comprehension: the written part by name -/
theorem ixK {X : Cx} {K : PySem.W.Frag} (e : X.K = K) : IxR X (rIxL K) := by
  subst e
  exact ix_list
theorem ixTK {X : Cx} {K : PySem.W.Frag} (e : X.K = K) : IxR X (rIxT K) := by
  subst e
  exact ix_tup
theorem lenK {X : Cx} {K : PySem.W.Frag} (e : X.K = K) : CallR X (.builtin "len") (fun xs H Q => ∃ p ys, xs = [.ref p] ∧ (SqL K H p ys ∨ SqT K H p ys) ∧ Q (.int ys.length) H) := by
  subst e
  exact call_len_seq
theorem isiK {X : Cx} {K : PySem.W.Frag} (e : X.K = K) : CallR X (.builtin "isinstance") (rIsi K) := by
  subst e
  exact call_isi
theorem inK {X : Cx} {K : PySem.W.Frag} (e : X.K = K) : OpR X (compareOp .In) (rIn K false) := by
  subst e
  exact op_in_seq
/-! ### great ints -/
def CMulX (i j : Int) : Prop := i.natAbs.log2 + j.natAbs.log2 < 100000000
theorem CMulX.ok {i j : Int} (h : CMulX i j) : IntMulOk i j := by
  have b : ∀ x : Int, Builtin.Int.intBits x ≤ x.natAbs.log2 + 1 := fun x => by
    unfold Builtin.Int.intBits
    split <;> omega
  have h1 := b i
  have h2 := b j
  have h3 : i.natAbs.log2 + j.natAbs.log2 < 100000000 := h
  have e : bitsLine = 134217728 := by decide
  unfold IntMulOk
  intro z
  have z2 := (Bool.and_eq_true_iff.mp z).2
  unfold Builtin.Int.intTooBig at z2
  have z3 := of_decide_eq_true z2
  omega
theorem op_mulX {X : Cx} : OpR X (binaryOp .Mult) (rI CMulX fun i j => .int (i * j)) :=
  opI fun _ _ _ _ _ _ _ hc q => mul_int q hc.ok
theorem log2_le {i : Int} {n : Nat} (h : i.natAbs < 2 ^ (n + 1)) : i.natAbs.log2 ≤ n := by
  have := PySem.Flt.log2_lt_of (Nat.succ_pos n) h
  omega
theorem mulX {i j : Int} (hi : i.natAbs.log2 ≤ 2000000) (hj : j.natAbs.log2 ≤ 2000000) : CMulX i j := by
  unfold CMulX
  omega
/-- an int of at most 200 bits -/
theorem sm {i : Int} (h : i.natAbs < 2 ^ 200) : i.natAbs.log2 ≤ 2000000 := by
  have := PySem.Flt.log2_lt_of (by decide) h
  omega
theorem bits_log {i : Int} (h : Builtin.Int.intBits i ≤ 1048576) : i.natAbs.log2 ≤ 1048576 := by
  unfold Builtin.Int.intBits at h
  split at h
  · rename_i e
    have e2 : i = 0 := by simpa using e
    subst e2
    decide
  · omega

/-! ### the drawing bag -/
structure Bag where
  r : Int
  s : Int
  k : Int
namespace Bag
def seed (b : Bag) : Int := (b.s * 48271 + b.k * 69621 + 11) % 2147483647
def fill (b : Bag) : Bag := if b.r = 0 then ⟨b.seed * 2147483629 + (b.seed * b.seed + b.k * 16807) % 2147483629, b.seed, b.k⟩ else b
def val (b : Bag) (m : Int) : Int := b.fill.r % m
def next (b : Bag) (m : Int) : Bag := ⟨b.fill.r / m, b.fill.s, b.fill.k⟩
def vals (b : Bag) : List V := [.int b.r, .int b.s, .int b.k]
structure Ok (b : Bag) : Prop where
  s : b.s.natAbs.log2 ≤ 1048576
  k : b.k.natAbs < 2 ^ 60
theorem seed_lo (b : Bag) : 0 ≤ b.seed := Int.emod_nonneg _ (by decide)
theorem seed_hi (b : Bag) : b.seed < 2147483647 := Int.emod_lt_of_pos _ (by decide)
theorem Ok.fill {b : Bag} (h : b.Ok) : b.fill.Ok := by
  unfold Bag.fill
  split
  · exact ⟨Nat.le_trans (log2_le (n := 1048576) (Nat.lt_of_lt_of_le (show b.seed.natAbs < 2 ^ 31 by have := b.seed_lo; have := b.seed_hi; omega) (Nat.pow_le_pow_right (by decide) (by decide)))) (Nat.le_refl _), h.k⟩
  · exact h
theorem Ok.next {b : Bag} (h : b.Ok) (m : Int) : (b.next m).Ok := ⟨h.fill.s, h.fill.k⟩
theorem val_lo (b : Bag) {m : Int} (h : 0 < m) : 0 ≤ b.val m := Int.emod_nonneg _ (by omega)
theorem val_hi (b : Bag) {m : Int} (h : 0 < m) : b.val m < m := Int.emod_lt_of_pos _ h
end Bag
/-- the bag b stands at p -/
def BagAt (H : Hp) (p : Addr) (b : Bag) : Prop := H p = some (.lst b.vals)
/-- some bag stands at p -/
def Bg (H : Hp) (p : Addr) : Prop := ∃ b : Bag, b.Ok ∧ BagAt H p b
/-- all but what stands at p is kept -/
def Keep (p : Addr) (H H' : Hp) : Prop := ∀ c o, H c = some o → c ≠ p → H' c = some o
/-- a draw: some number below m, the bag turned -/
def spDraw : Sp := fun vs H Q _ => ∃ (p : Addr) (m : Int), vs = [.ref p, .int m] ∧ Bg H p ∧ 0 < m ∧ m.natAbs.log2 < 9000 ∧
  ∀ (z : Int) (H' : Hp), 0 ≤ z → z < m → Bg H' p → Keep p H H' → Q (.int z) H'
/-- a new bag from the script's k-th cell -/
def spBag (K : PySem.W.Frag) : Sp := fun vs H Q _ => ∃ (a : Addr) (ns : List Int) (k : Int), vs = [.ref a, .int k] ∧ SqL K H a (ns.map V.int) ∧ (∀ n ∈ ns, Builtin.Int.intBits n ≤ 1048576) ∧
  0 ≤ k ∧ k < 2 ^ 60 ∧ ∀ (p : Addr) (H' : Hp), H p = none → Bg H' p → Same H H' → Q (.ref p) H'
theorem Keep.refl (p : Addr) (H : Hp) : Keep p H H := fun _ _ h _ => h
theorem Keep.trans {p : Addr} {H H1 H2 : Hp} (a : Keep p H H1) (b : Keep p H1 H2) : Keep p H H2 := fun c o e n => b c o (a c o e n) n
theorem Keep.own {p : Addr} {H H1 : Hp} {o : HO} (a : Keep p H H1) : Keep p H (upd H1 p o) := fun c u e n => by rw [upd_ne n]; exact a c u e n
theorem Keep.new {p q : Addr} {H H1 : Hp} {o : HO} (a : Keep p H H1) (h : H1 q = none) : Keep p H (upd H1 q o) := fun c u e n => by
  have z := a c u e n
  rw [upd_ne (ne_of_none z h)]
  exact z
theorem Keep.same {p : Addr} {H H1 H2 : Hp} (a : Same H H1) (n : H p = none) (b : Keep p H1 H2) : Same H H2 := fun c o e => b c o (a c o e) (ne_of_none e n)
theorem _root_.L2.Same.neww {q : Addr} {H H1 : Hp} {o : HO} (a : Same H H1) (h : H1 q = none) : Same H (upd H1 q o) := fun c u e => by
  have z := a c u e
  rw [upd_ne (ne_of_none z h)]
  exact z
theorem Same_upd {q : Addr} {H : Hp} {o : HO} (h : H q = none) : Same H (L2.upd H q o) := (Same.refl H).neww h
/-- a new object, its heap a letter -/
theorem newO {H : Hp} {o : HO} {Q : VK} (h : ∀ p H', H p = none → H' p = some o → Same H H' → Q (.ref p) H') : ∀ p, H p = none → Q (.ref p) (L2.upd H p o) :=
  fun p n => h p _ n upd_same (Same_upd n)
/-- a change at p, its heap a letter -/
theorem setO {H : Hp} {p : Addr} {o : HO} {Q : Hp → Prop} (h : ∀ H', H' p = some o → Keep p H H' → Q H') : Q (L2.upd H p o) :=
  h _ upd_same (Keep.refl p H).own
theorem _root_.L2.Same.keepw {p : Addr} {H H' : Hp} (s : Same H H') : Keep p H H' := fun c o e _ => s c o e
theorem _root_.L2.Same.bgw {H H' : Hp} {p : Addr} (s : Same H H') (b : Bg H p) : Bg H' p := by
  obtain ⟨x, ok, h⟩ := b
  exact ⟨x, ok, s _ _ h⟩
theorem Bg.ne {H : Hp} {p q : Addr} (b : Bg H p) (h : H q = none) : p ≠ q := by
  obtain ⟨x, _, e⟩ := b
  exact ne_of_none e h
/-- an item of a written list of ints -/
theorem menu (xs : List Int) {i : Int} (h0 : 0 ≤ i) (h1 : i < xs.length) : atI (xs.map V.int) i = some (.int (xs.getD i.toNat 0)) := by
  obtain ⟨j, rfl⟩ := Int.eq_ofNat_of_zero_le h0
  have hl : j < xs.length := by omega
  refine atI_nat ?_
  rw [List.getElem?_map, List.getElem?_eq_getElem hl]
  simp [List.getD, List.getElem?_eq_getElem hl]
theorem menu_all {q : Int → Prop} (xs : List Int) (h : ∀ x ∈ xs, q x) (z : q 0) (n : Nat) : q (xs.getD n 0) := by
  by_cases hl : n < xs.length
  · have e : xs.getD n 0 = xs[n] := by simp [List.getD, List.getElem?_eq_getElem hl]
    rw [e]
    exact h _ (List.getElem_mem hl)
  · have e : xs.getD n 0 = 0 := by simp [List.getD, List.getElem?_eq_none (by omega : xs.length ≤ n)]
    rw [e]
    exact z
/-- an item of a written list of any values -/
theorem menuV (xs : List V) {i : Int} (h0 : 0 ≤ i) (h1 : i < xs.length) : ∃ v ∈ xs, atI xs i = some v := by
  obtain ⟨j, rfl⟩ := Int.eq_ofNat_of_zero_le h0
  have hl : j < xs.length := by omega
  exact ⟨xs[j], List.getElem_mem hl, atI_nat (List.getElem?_eq_getElem hl)⟩
/-- the end of a law's row, with the bits of the script's numbers -/
theorem walk_bits {l : PySem.W.OpenLaw} {n k : Nat} {q : Program} {loose : List Str} {XP : (Str → Option Value) → Heap → Prop} {YP : World → Heap → Prop} {d : DefRec} {x : Str}
    (hn : l.most = some n) (hn2 : n ≤ sizeLine) (hdf : d.params.defaults = []) (hr : Room k callerA)
    (F : ∀ (w : World) (mg : Str → Option Value) (fa : Addr) (h : Heap), YP w h → h.Ns mainGlobals mg → mg d.name = some (.ref fa) →
      ∃ K : PySem.W.Frag, K.In h ∧ ∃ (fd : FuncData) (sp : Sp), (∀ (s : Shared) (u : Value), BindsTo s fd ⟨[u], []⟩ [(x, u)]) ∧
        (∀ (H : Hp) (a : Addr) (ns : List Int), ns.length ≤ n → (∀ z ∈ ns, Builtin.Int.intBits z ≤ 1048576) → SqL K H a (ns.map V.int) → sp [.ref a] H (fun v _ => v = .bl true) fun _ _ _ => False) ∧
        ∀ base : Heap, K.In base → base.Ns mainGlobals mg → FnOk l.prog w K mg base CX0 k fa fd [x] sp) :
    PySem.W.WalkO q loose XP YP l.row.toRowW d [] (fun f vs => PySem.call f vs) := by
  refine Att.attach_callB hn hdf fun w s₀ s₁ mg mb fa o pm cd doc a vs ns G Y ho hd hcd hmg hobj hints hlen hbits hg => ?_
  obtain ⟨K, KX, fd, sp, hb, hsp, hF⟩ := F w mg fa _ Y G.T.g hmg
  exact law_call (CX := CX0) KX G.T.g G.T.b G.T.builtins G.T.nolimit hg hobj hints (Nat.le_trans hlen hn2) hr hF hb (fun H _ hS => hsp H a ns hlen hbits hS) fun _ _ _ z => z
end Wc
set_option Elab.async false
set_option linter.all false
set_option maxRecDepth 100000
set_option maxHeartbeats 4000000
/-! The operations on words, as mathematics. -/
namespace Wc
open PySem PySem.Spec PyProof.Rows L2 PySem.W

/-- the word of an int -/
def wr (n : Int) : Int := (n + 32768) % 65536 - 32768
theorem wr_lo (n : Int) : -32768 ≤ wr n := by
  unfold wr
  omega
theorem wr_hi (n : Int) : wr n ≤ 32767 := by
  unfold wr
  omega
theorem wr_wr (n : Int) : wr (wr n) = wr n := by
  unfold wr
  omega
theorem wr_mod (n : Int) : (n - wr n) % 65536 = 0 := by
  unfold wr
  omega
def Wd (n : Int) : Prop := -32768 ≤ n ∧ n ≤ 32767
theorem wr_wd (n : Int) : Wd (wr n) := ⟨wr_lo n, wr_hi n⟩
theorem wr_of {n : Int} (h : Wd n) : wr n = n := by
  unfold wr
  obtain ⟨h1, h2⟩ := h
  omega
/-- an int and its word differ by a multiple -/
theorem wr_at (n : Int) : ∃ q : Int, wr n = n + 65536 * q := ⟨-((n + 32768) / 65536), by
  unfold wr
  omega⟩
theorem wr_add_mul (n q : Int) : wr (n + 65536 * q) = wr n := by
  unfold wr
  omega
theorem wr_eq {a b : Int} (q : Int) (h : a = b + 65536 * q) : wr a = wr b := by
  rw [h, wr_add_mul]
theorem wr_mul_l (a b : Int) : wr (wr a * b) = wr (a * b) := by
  obtain ⟨q, h⟩ := wr_at a
  rw [h, Int.add_mul, Int.mul_assoc]
  exact wr_add_mul _ _
theorem wr_mul_r (a b : Int) : wr (a * wr b) = wr (a * b) := by
  rw [Int.mul_comm, wr_mul_l, Int.mul_comm]
theorem wr_add_l (a b : Int) : wr (wr a + b) = wr (a + b) := by
  unfold wr
  omega
theorem wr_add_r (a b : Int) : wr (a + wr b) = wr (a + b) := by
  unfold wr
  omega
theorem wr_sub_l (a b : Int) : wr (wr a - b) = wr (a - b) := by
  unfold wr
  omega
theorem wr_sub_r (a b : Int) : wr (a - wr b) = wr (a - b) := by
  unfold wr
  omega

/-! ### bits -/
def bit (x : Int) (k : Nat) : Int := x / 2 ^ k % 2
theorem div_pow_succ (x : Int) (k : Nat) : x / 2 ^ (k + 1) = x / 2 ^ k / 2 := by
  rw [Int.pow_succ, Int.ediv_ediv_of_nonneg (Int.le_of_lt (Int.pow_pos (by decide)))]
theorem div_pow_add (x : Int) (j k : Nat) : x / 2 ^ (j + k) = x / 2 ^ j / 2 ^ k := by
  rw [Int.pow_add, Int.ediv_ediv_of_nonneg (Int.le_of_lt (Int.pow_pos (by decide)))]
theorem bit_zero (x : Int) : bit x 0 = x % 2 := by
  unfold bit
  rw [Int.pow_zero, Int.ediv_one]
theorem bit_succ (x : Int) (k : Nat) : bit x (k + 1) = bit (x / 2) k := by
  unfold bit
  rw [Nat.add_comm k 1, div_pow_add, Int.pow_one]
theorem bit_01 (x : Int) (k : Nat) : bit x k = 0 ∨ bit x k = 1 := by
  unfold bit
  omega
theorem bit_div (x : Int) (j k : Nat) : bit (x / 2 ^ j) k = bit x (j + k) := by
  unfold bit
  rw [div_pow_add]
/-- the lowest n bits -/
theorem mod_pow_succ (x : Int) (n : Nat) : x % 2 ^ (n + 1) = x % 2 ^ n + 2 ^ n * bit x n := by
  unfold bit
  have h0 : (0 : Int) < 2 ^ n := Int.pow_pos (by decide)
  have h1 := Int.emod_add_mul_ediv x (2 ^ n)
  have h2 := Int.emod_add_mul_ediv x (2 ^ (n + 1))
  rw [div_pow_succ, Int.pow_succ] at h2
  have h3 : x / 2 ^ n = 2 * (x / 2 ^ n / 2) + x / 2 ^ n % 2 := by omega
  generalize x / 2 ^ n = y at *
  generalize y / 2 = z at *
  generalize y % 2 = b at *
  rw [Int.pow_succ]
  have h4 : (2 : Int) ^ n * 2 * z = 2 * (2 ^ n * z) := by rw [Int.mul_comm (2 ^ n) 2, Int.mul_assoc]
  have h5 : (2 : Int) ^ n * y = 2 * (2 ^ n * z) + 2 ^ n * b := by
    rw [h3, Int.mul_add, ← Int.mul_assoc, Int.mul_comm (2 ^ n) 2, Int.mul_assoc]
  omega
theorem mod_ext {x y : Int} : ∀ {n : Nat}, (∀ k, k < n → bit x k = bit y k) → x % 2 ^ n = y % 2 ^ n
  | 0, _ => by simp [Int.emod_one]
  | n + 1, h => by
    rw [mod_pow_succ, mod_pow_succ, mod_ext (n := n) fun k hk => h k (by omega), h n (by omega)]
theorem wd_ext {x y : Int} (hx : Wd x) (hy : Wd y) (h : ∀ k, k < 16 → bit x k = bit y k) : x = y := by
  have e := mod_ext h
  have e16 : (2 : Int) ^ 16 = 65536 := by decide
  rw [e16] at e
  obtain ⟨h1, h2⟩ := hx
  obtain ⟨h3, h4⟩ := hy
  omega
theorem bit_wr (x : Int) {k : Nat} (hk : k < 16) : bit (wr x) k = bit x k := by
  obtain ⟨q, e⟩ := wr_at x
  rw [e]
  unfold bit
  have e1 : (65536 : Int) = 2 ^ k * (2 * 2 ^ (15 - k)) := by
    have : (2 : Int) ^ 16 = 2 ^ (k + (1 + (15 - k))) := by
      congr 1
      omega
    rw [show (65536 : Int) = 2 ^ 16 by decide, this, Int.pow_add, Int.pow_add, Int.pow_one]
  rw [e1, Int.mul_assoc, Int.add_mul_ediv_left _ _ (by exact Int.ne_of_gt (Int.pow_pos (by decide)))]
  rw [Int.mul_assoc, Int.add_mul_emod_self_left]

/-! ### and, or, exclusive or -/
theorem and_half (x y : Int) : Builtin.bitAnd x y / 2 = Builtin.bitAnd (x / 2) (y / 2) := by
  have := kbt_halves x y
  split at this <;> omega
theorem and_low (x y : Int) : Builtin.bitAnd x y % 2 = (x % 2) * (y % 2) := by
  have := kbt_halves x y
  rcases Int.emod_two_eq x with a | a <;> rcases Int.emod_two_eq y with b | b <;> rw [a, b] <;> split at this <;> omega
theorem bit_and : ∀ (k : Nat) (x y : Int), bit (Builtin.bitAnd x y) k = bit x k * bit y k
  | 0, x, y => by rw [bit_zero, bit_zero, bit_zero, and_low]
  | k + 1, x, y => by rw [bit_succ, bit_succ, bit_succ, and_half, bit_and k]
theorem or_half (x y : Int) : Builtin.bitOr x y / 2 = Builtin.bitOr (x / 2) (y / 2) := by
  have := kbt_halves x y
  rw [bitOr_and, bitOr_and]
  split at this <;> omega
theorem or_low (x y : Int) : Builtin.bitOr x y % 2 = if x % 2 = 1 ∨ y % 2 = 1 then 1 else 0 := by
  have := kbt_halves x y
  rw [bitOr_and]
  split <;> split at this <;> omega
theorem bit_or : ∀ (k : Nat) (x y : Int), bit (Builtin.bitOr x y) k = if bit x k = 1 ∨ bit y k = 1 then 1 else 0
  | 0, x, y => by rw [bit_zero, bit_zero, bit_zero, or_low]
  | k + 1, x, y => by rw [bit_succ, bit_succ, bit_succ, or_half, bit_or k]
theorem xor_half (x y : Int) : Builtin.bitXor x y / 2 = Builtin.bitXor (x / 2) (y / 2) := by
  have := kbt_halves x y
  rw [bitXor_and, bitXor_and]
  split at this <;> omega
theorem xor_low (x y : Int) : Builtin.bitXor x y % 2 = if x % 2 = y % 2 then 0 else 1 := by
  have := kbt_halves x y
  rw [bitXor_and]
  split <;> split at this <;> omega
theorem bit_xor : ∀ (k : Nat) (x y : Int), bit (Builtin.bitXor x y) k = if bit x k = bit y k then 0 else 1
  | 0, x, y => by rw [bit_zero, bit_zero, bit_zero, xor_low]
  | k + 1, x, y => by rw [bit_succ, bit_succ, bit_succ, xor_half, bit_xor k]
/-- a word is what is 0 or -1 behind 15 bits -/
theorem wd_iff (x : Int) : Wd x ↔ x / 32768 = 0 ∨ x / 32768 = -1 := by
  unfold Wd
  omega
theorem half_n (f : Int → Int → Int) (h : ∀ x y, f x y / 2 = f (x / 2) (y / 2)) : ∀ (n : Nat) (x y : Int), f x y / 2 ^ n = f (x / 2 ^ n) (y / 2 ^ n)
  | 0, x, y => by rw [Int.pow_zero, Int.ediv_one, Int.ediv_one, Int.ediv_one]
  | n + 1, x, y => by rw [div_pow_succ, div_pow_succ, div_pow_succ, half_n f h n, h]
theorem wd_bits (f : Int → Int → Int) (h : ∀ x y, f x y / 2 = f (x / 2) (y / 2)) (h00 : f 0 0 = 0 ∨ f 0 0 = -1) (h01 : f 0 (-1) = 0 ∨ f 0 (-1) = -1) (h10 : f (-1) 0 = 0 ∨ f (-1) 0 = -1) (h11 : f (-1) (-1) = 0 ∨ f (-1) (-1) = -1)
    {x y : Int} (hx : Wd x) (hy : Wd y) : Wd (f x y) := by
  rw [wd_iff] at *
  have e := half_n f h 15 x y
  rw [show (2 : Int) ^ 15 = 32768 by decide] at e
  rw [e]
  rcases hx with a | a <;> rcases hy with b | b <;> rw [a, b] <;> assumption
theorem wd_and {x y : Int} (hx : Wd x) (hy : Wd y) : Wd (Builtin.bitAnd x y) := wd_bits Builtin.bitAnd and_half (by decide) (by decide) (by decide) (by decide) hx hy
theorem wd_or {x y : Int} (hx : Wd x) (hy : Wd y) : Wd (Builtin.bitOr x y) := wd_bits Builtin.bitOr or_half (by decide) (by decide) (by decide) (by decide) hx hy
theorem wd_xor {x y : Int} (hx : Wd x) (hy : Wd y) : Wd (Builtin.bitXor x y) := wd_bits Builtin.bitXor xor_half (by decide) (by decide) (by decide) (by decide) hx hy

/-! ### the sixteen operations -/
inductive Sg where
  | add | sub | mul | div | rem | and | or | xor | shl | shr | eq | ne | lt | le | gt | ge
  deriving DecidableEq
def Sg.z : Sg → Str
  | .add => "+" | .sub => "-" | .mul => "*" | .div => "/" | .rem => "mod" | .and => "&" | .or => "|" | .xor => "^" | .shl => "<<" | .shr => ">>"
  | .eq => "==" | .ne => "!=" | .lt => "<" | .le => "<=" | .gt => ">" | .ge => ">="
def Sg.f : Sg → Str
  | .add => "_plus" | .sub => "_minus" | .mul => "_times" | .div => "_divide" | .rem => "_rest" | .and => "_both_bits" | .or => "_any_bits" | .xor => "_other_bits" | .shl => "_up" | .shr => "_down"
  | .eq => "_equal" | .ne => "_unequal" | .lt => "_less" | .le => "_at_most" | .gt => "_more" | .ge => "_at_least"
/-- a quotient without its fraction -/
def ab (l : Int) : Int := if l < 0 then -l else l
def quo (l r : Int) : Int := if (decide (l < 0)) = (decide (r < 0)) then ab l / ab r else -(ab l / ab r)
def b01 (b : Bool) : Int := if b then 1 else 0
def opV : Sg → Int → Int → V
  | .add, l, r => .int (wr (l + r))
  | .sub, l, r => .int (wr (l - r))
  | .mul, l, r => .int (wr (l * r))
  | .div, l, r => if r = 0 then .non else .int (wr (quo l r))
  | .rem, l, r => if r = 0 then .non else .int (l - r * quo l r)
  | .and, l, r => .int (Builtin.bitAnd l r)
  | .or, l, r => .int (Builtin.bitOr l r)
  | .xor, l, r => .int (Builtin.bitXor l r)
  | .shl, l, r => .int (wr (l * 2 ^ (r % 16).toNat))
  | .shr, l, r => .int (l / 2 ^ (r % 16).toNat)
  | .eq, l, r => .int (b01 (decide (l = r)))
  | .ne, l, r => .int (b01 (!decide (l = r)))
  | .lt, l, r => .int (b01 (decide (l < r)))
  | .le, l, r => .int (b01 (decide (l ≤ r)))
  | .gt, l, r => .int (b01 (decide (r < l)))
  | .ge, l, r => .int (b01 (decide (r ≤ l)))
/-- what an action, and what op gives -/
def spAct (s : Sg) : Sp := fun vs H Q _ => ∃ l r : Int, vs = [.int l, .int r] ∧ Wd l ∧ Wd r ∧ Q (opV s l r) H
def spOp : Sp := fun vs H Q _ => ∃ (s : Sg) (l r : Int), vs = [.str s.z, .int l, .int r] ∧ Wd l ∧ Wd r ∧ Q (opV s l r) H
theorem Wd.sm {n : Int} (h : Wd n) : n.natAbs < 2 ^ 16 := by
  obtain ⟨h1, h2⟩ := h
  omega
theorem Wd.lg {n : Int} (h : Wd n) : n.natAbs.log2 ≤ 2000000 := Wc.sm (Nat.lt_of_lt_of_le h.sm (by decide))
def spWrap : Sp := fun vs H Q _ => ∃ n : Int, vs = [.int n] ∧ Q (.int (wr n)) H
/-- the product of a number with its quotient, and the rest -/
theorem quo_at (l : Int) {r : Int} (h : r ≠ 0) : ∃ m : Int, r * quo l r = l - m ∧ ab m < ab r ∧ (m = 0 ∨ (m < 0 ↔ l < 0)) ∧ -ab l ≤ quo l r ∧ quo l r ≤ ab l := by
  have hr : 0 < ab r := by
    unfold ab
    split <;> omega
  have h1 := Int.emod_add_mul_ediv (ab l) (ab r)
  have h2 := Int.emod_lt_of_pos (ab l) hr
  have h3 := Int.emod_nonneg (ab l) (show ab r ≠ 0 by omega)
  have hl : 0 ≤ ab l := by
    unfold ab
    split <;> omega
  have h4 : 0 ≤ ab l / ab r := Int.ediv_nonneg hl (by omega)
  have h5 : ab l / ab r ≤ ab l := Int.ediv_le_self _ hl
  unfold quo
  generalize ab l / ab r = q at *
  generalize ab l % ab r = m at *
  by_cases a : l < 0 <;> by_cases b : r < 0
  · have e1 : ab l = -l := if_pos a
    have e2 : ab r = -r := if_pos b
    rw [if_pos (by rw [decide_eq_true a, decide_eq_true b])]
    rw [e2, Int.neg_mul] at h1
    exact ⟨-m, by omega, by unfold ab; split <;> omega, by omega, by omega, by omega⟩
  · have e1 : ab l = -l := if_pos a
    have e2 : ab r = r := if_neg b
    rw [if_neg (by rw [decide_eq_true a, decide_eq_false b]; decide)]
    rw [e2] at h1
    rw [Int.mul_neg]
    exact ⟨-m, by omega, by unfold ab; split <;> omega, by omega, by omega, by omega⟩
  · have e1 : ab l = l := if_neg a
    have e2 : ab r = -r := if_pos b
    rw [if_neg (by rw [decide_eq_false a, decide_eq_true b]; decide)]
    rw [e2, Int.neg_mul] at h1
    rw [Int.mul_neg]
    exact ⟨m, by omega, by unfold ab; split <;> omega, by omega, by omega, by omega⟩
  · have e1 : ab l = l := if_neg a
    have e2 : ab r = r := if_neg b
    rw [if_pos (by rw [decide_eq_false a, decide_eq_false b])]
    rw [e2] at h1
    exact ⟨m, by omega, by unfold ab; split <;> omega, by omega, by omega, by omega⟩
end Wc
set_option Elab.async false
set_option linter.all false
set_option maxRecDepth 100000
set_option maxHeartbeats 4000000
namespace Pf
open PySem PySem.Spec PyProof.Rows L2 Wc
open C8 (Cal pe_c pe_gc)
def top (i : Nat) : Stmt := PySem.Challenge.pw_warycard_k04_whole_words_are_numbers_by.main.body.getD i (.Pass ⟨0, 0, 0, 0⟩)
abbrev s_wrap : Stmt := top 1
abbrev N_wrap : List Str := ["number"]
theorem sc_wrap : FnScope N_wrap ["number"] (defScope s_wrap) := ⟨rfl, rfl, rfl, by decide +kernel, rfl, by decide +kernel, by decide +kernel⟩
abbrev s__plus : Stmt := top 2
abbrev N__plus : List Str := ["left", "right"]
theorem sc__plus : FnScope N__plus ["left", "right"] (defScope s__plus) := ⟨rfl, rfl, rfl, by decide +kernel, rfl, by decide +kernel, by decide +kernel⟩
abbrev s__minus : Stmt := top 3
abbrev N__minus : List Str := ["left", "right"]
theorem sc__minus : FnScope N__minus ["left", "right"] (defScope s__minus) := ⟨rfl, rfl, rfl, by decide +kernel, rfl, by decide +kernel, by decide +kernel⟩
abbrev s__times : Stmt := top 4
abbrev N__times : List Str := ["left", "right"]
theorem sc__times : FnScope N__times ["left", "right"] (defScope s__times) := ⟨rfl, rfl, rfl, by decide +kernel, rfl, by decide +kernel, by decide +kernel⟩
abbrev s__quotient : Stmt := top 5
abbrev N__quotient : List Str := ["left", "right", "size"]
theorem sc__quotient : FnScope N__quotient ["left", "right"] (defScope s__quotient) := ⟨rfl, rfl, rfl, by decide +kernel, rfl, by decide +kernel, by decide +kernel⟩
abbrev s__divide : Stmt := top 6
abbrev N__divide : List Str := ["left", "right"]
theorem sc__divide : FnScope N__divide ["left", "right"] (defScope s__divide) := ⟨rfl, rfl, rfl, by decide +kernel, rfl, by decide +kernel, by decide +kernel⟩
abbrev s__rest : Stmt := top 7
abbrev N__rest : List Str := ["left", "right"]
theorem sc__rest : FnScope N__rest ["left", "right"] (defScope s__rest) := ⟨rfl, rfl, rfl, by decide +kernel, rfl, by decide +kernel, by decide +kernel⟩
abbrev s__both_bits : Stmt := top 8
abbrev N__both_bits : List Str := ["left", "right"]
theorem sc__both_bits : FnScope N__both_bits ["left", "right"] (defScope s__both_bits) := ⟨rfl, rfl, rfl, by decide +kernel, rfl, by decide +kernel, by decide +kernel⟩
abbrev s__any_bits : Stmt := top 9
abbrev N__any_bits : List Str := ["left", "right"]
theorem sc__any_bits : FnScope N__any_bits ["left", "right"] (defScope s__any_bits) := ⟨rfl, rfl, rfl, by decide +kernel, rfl, by decide +kernel, by decide +kernel⟩
abbrev s__other_bits : Stmt := top 10
abbrev N__other_bits : List Str := ["left", "right"]
theorem sc__other_bits : FnScope N__other_bits ["left", "right"] (defScope s__other_bits) := ⟨rfl, rfl, rfl, by decide +kernel, rfl, by decide +kernel, by decide +kernel⟩
abbrev s__up : Stmt := top 11
abbrev N__up : List Str := ["left", "right"]
theorem sc__up : FnScope N__up ["left", "right"] (defScope s__up) := ⟨rfl, rfl, rfl, by decide +kernel, rfl, by decide +kernel, by decide +kernel⟩
abbrev s__down : Stmt := top 12
abbrev N__down : List Str := ["left", "right"]
theorem sc__down : FnScope N__down ["left", "right"] (defScope s__down) := ⟨rfl, rfl, rfl, by decide +kernel, rfl, by decide +kernel, by decide +kernel⟩
abbrev s__equal : Stmt := top 13
abbrev N__equal : List Str := ["left", "right"]
theorem sc__equal : FnScope N__equal ["left", "right"] (defScope s__equal) := ⟨rfl, rfl, rfl, by decide +kernel, rfl, by decide +kernel, by decide +kernel⟩
abbrev s__unequal : Stmt := top 14
abbrev N__unequal : List Str := ["left", "right"]
theorem sc__unequal : FnScope N__unequal ["left", "right"] (defScope s__unequal) := ⟨rfl, rfl, rfl, by decide +kernel, rfl, by decide +kernel, by decide +kernel⟩
abbrev s__less : Stmt := top 15
abbrev N__less : List Str := ["left", "right"]
theorem sc__less : FnScope N__less ["left", "right"] (defScope s__less) := ⟨rfl, rfl, rfl, by decide +kernel, rfl, by decide +kernel, by decide +kernel⟩
abbrev s__at_most : Stmt := top 16
abbrev N__at_most : List Str := ["left", "right"]
theorem sc__at_most : FnScope N__at_most ["left", "right"] (defScope s__at_most) := ⟨rfl, rfl, rfl, by decide +kernel, rfl, by decide +kernel, by decide +kernel⟩
abbrev s__more : Stmt := top 17
abbrev N__more : List Str := ["left", "right"]
theorem sc__more : FnScope N__more ["left", "right"] (defScope s__more) := ⟨rfl, rfl, rfl, by decide +kernel, rfl, by decide +kernel, by decide +kernel⟩
abbrev s__at_least : Stmt := top 18
abbrev N__at_least : List Str := ["left", "right"]
theorem sc__at_least : FnScope N__at_least ["left", "right"] (defScope s__at_least) := ⟨rfl, rfl, rfl, by decide +kernel, rfl, by decide +kernel, by decide +kernel⟩
abbrev s_op : Stmt := top 20
abbrev N_op : List Str := ["sign", "left", "right", "action"]
theorem sc_op : FnScope N_op ["sign", "left", "right"] (defScope s_op) := ⟨rfl, rfl, rfl, by decide +kernel, rfl, by decide +kernel, by decide +kernel⟩
abbrev s__law_bag : Stmt := top 22
abbrev N__law_bag : List Str := ["script", "k", "cell"]
theorem sc__law_bag : FnScope N__law_bag ["script", "k"] (defScope s__law_bag) := ⟨rfl, rfl, rfl, by decide +kernel, rfl, by decide +kernel, by decide +kernel⟩
abbrev s__law_draw : Stmt := top 23
abbrev N__law_draw : List Str := ["bag", "many", "seed", "rest"]
theorem sc__law_draw : FnScope N__law_draw ["bag", "many"] (defScope s__law_draw) := ⟨rfl, rfl, rfl, by decide +kernel, rfl, by decide +kernel, by decide +kernel⟩
abbrev s__law_integer : Stmt := top 24
abbrev N__law_integer : List Str := ["bag", "number"]
theorem sc__law_integer : FnScope N__law_integer ["bag"] (defScope s__law_integer) := ⟨rfl, rfl, rfl, by decide +kernel, rfl, by decide +kernel, by decide +kernel⟩
abbrev s__law_power : Stmt := top 25
abbrev N__law_power : List Str := ["many", "power", "k"]
theorem sc__law_power : FnScope N__law_power ["many"] (defScope s__law_power) := ⟨rfl, rfl, rfl, by decide +kernel, rfl, by decide +kernel, by decide +kernel⟩
abbrev s__law_ring : Stmt := top 26
abbrev N__law_ring : List Str := ["one", "two", "three", "left", "right", "last", "sign"]
theorem sc__law_ring : FnScope N__law_ring ["one", "two", "three"] (defScope s__law_ring) := ⟨rfl, rfl, rfl, by decide +kernel, rfl, by decide +kernel, by decide +kernel⟩
abbrev s__law_division : Stmt := top 27
abbrev N__law_division : List Str := ["left", "right", "power", "down", "rest"]
theorem sc__law_division : FnScope N__law_division ["left", "right"] (defScope s__law_division) := ⟨rfl, rfl, rfl, by decide +kernel, rfl, by decide +kernel, by decide +kernel⟩
abbrev s__law_compared : Stmt := top 28
abbrev N__law_compared : List Str := ["left", "right", "less", "same", "more"]
theorem sc__law_compared : FnScope N__law_compared ["left", "right"] (defScope s__law_compared) := ⟨rfl, rfl, rfl, by decide +kernel, rfl, by decide +kernel, by decide +kernel⟩
abbrev s_law : Stmt := top 29
abbrev N_law : List Str := ["script", "k", "bag", "one", "two", "three"]
theorem sc_law : FnScope N_law ["script"] (defScope s_law) := ⟨rfl, rfl, rfl, by decide +kernel, rfl, by decide +kernel, by decide +kernel⟩
def v_ACTIONS : List (Str × He.Dv) := [("+", .glo "_plus"), ("-", .glo "_minus"), ("*", .glo "_times"), ("/", .glo "_divide"), ("mod", .glo "_rest"), ("&", .glo "_both_bits"), ("|", .glo "_any_bits"), ("^", .glo "_other_bits"), ("<<", .glo "_up"), (">>", .glo "_down"), ("==", .glo "_equal"), ("!=", .glo "_unequal"), ("<", .glo "_less"), ("<=", .glo "_at_most"), (">", .glo "_more"), (">=", .glo "_at_least")]
/-- where all stands behind the top -/
structure Txt (w : World) (K : PySem.W.Frag) (mg : Str → Option Value) : Prop where
  d_wrap : ∃ fd, FnP K "wrap" s_wrap (He.ga K "wrap") fd
  g_wrap : mg "wrap" = some (.ref (He.ga K "wrap"))
  d__plus : ∃ fd, FnP K "_plus" s__plus (He.ga K "_plus") fd
  g__plus : mg "_plus" = some (.ref (He.ga K "_plus"))
  d__minus : ∃ fd, FnP K "_minus" s__minus (He.ga K "_minus") fd
  g__minus : mg "_minus" = some (.ref (He.ga K "_minus"))
  d__times : ∃ fd, FnP K "_times" s__times (He.ga K "_times") fd
  g__times : mg "_times" = some (.ref (He.ga K "_times"))
  d__quotient : ∃ fd, FnP K "_quotient" s__quotient (He.ga K "_quotient") fd
  g__quotient : mg "_quotient" = some (.ref (He.ga K "_quotient"))
  d__divide : ∃ fd, FnP K "_divide" s__divide (He.ga K "_divide") fd
  g__divide : mg "_divide" = some (.ref (He.ga K "_divide"))
  d__rest : ∃ fd, FnP K "_rest" s__rest (He.ga K "_rest") fd
  g__rest : mg "_rest" = some (.ref (He.ga K "_rest"))
  d__both_bits : ∃ fd, FnP K "_both_bits" s__both_bits (He.ga K "_both_bits") fd
  g__both_bits : mg "_both_bits" = some (.ref (He.ga K "_both_bits"))
  d__any_bits : ∃ fd, FnP K "_any_bits" s__any_bits (He.ga K "_any_bits") fd
  g__any_bits : mg "_any_bits" = some (.ref (He.ga K "_any_bits"))
  d__other_bits : ∃ fd, FnP K "_other_bits" s__other_bits (He.ga K "_other_bits") fd
  g__other_bits : mg "_other_bits" = some (.ref (He.ga K "_other_bits"))
  d__up : ∃ fd, FnP K "_up" s__up (He.ga K "_up") fd
  g__up : mg "_up" = some (.ref (He.ga K "_up"))
  d__down : ∃ fd, FnP K "_down" s__down (He.ga K "_down") fd
  g__down : mg "_down" = some (.ref (He.ga K "_down"))
  d__equal : ∃ fd, FnP K "_equal" s__equal (He.ga K "_equal") fd
  g__equal : mg "_equal" = some (.ref (He.ga K "_equal"))
  d__unequal : ∃ fd, FnP K "_unequal" s__unequal (He.ga K "_unequal") fd
  g__unequal : mg "_unequal" = some (.ref (He.ga K "_unequal"))
  d__less : ∃ fd, FnP K "_less" s__less (He.ga K "_less") fd
  g__less : mg "_less" = some (.ref (He.ga K "_less"))
  d__at_most : ∃ fd, FnP K "_at_most" s__at_most (He.ga K "_at_most") fd
  g__at_most : mg "_at_most" = some (.ref (He.ga K "_at_most"))
  d__more : ∃ fd, FnP K "_more" s__more (He.ga K "_more") fd
  g__more : mg "_more" = some (.ref (He.ga K "_more"))
  d__at_least : ∃ fd, FnP K "_at_least" s__at_least (He.ga K "_at_least") fd
  g__at_least : mg "_at_least" = some (.ref (He.ga K "_at_least"))
  d_op : ∃ fd, FnP K "op" s_op (He.ga K "op") fd
  g_op : mg "op" = some (.ref (He.ga K "op"))
  d__law_bag : ∃ fd, FnP K "_law_bag" s__law_bag (He.ga K "_law_bag") fd
  g__law_bag : mg "_law_bag" = some (.ref (He.ga K "_law_bag"))
  d__law_draw : ∃ fd, FnP K "_law_draw" s__law_draw (He.ga K "_law_draw") fd
  g__law_draw : mg "_law_draw" = some (.ref (He.ga K "_law_draw"))
  d__law_integer : ∃ fd, FnP K "_law_integer" s__law_integer (He.ga K "_law_integer") fd
  g__law_integer : mg "_law_integer" = some (.ref (He.ga K "_law_integer"))
  d__law_power : ∃ fd, FnP K "_law_power" s__law_power (He.ga K "_law_power") fd
  g__law_power : mg "_law_power" = some (.ref (He.ga K "_law_power"))
  d__law_ring : ∃ fd, FnP K "_law_ring" s__law_ring (He.ga K "_law_ring") fd
  g__law_ring : mg "_law_ring" = some (.ref (He.ga K "_law_ring"))
  d__law_division : ∃ fd, FnP K "_law_division" s__law_division (He.ga K "_law_division") fd
  g__law_division : mg "_law_division" = some (.ref (He.ga K "_law_division"))
  d__law_compared : ∃ fd, FnP K "_law_compared" s__law_compared (He.ga K "_law_compared") fd
  g__law_compared : mg "_law_compared" = some (.ref (He.ga K "_law_compared"))
  d_law : ∃ fd, FnP K "law" s_law (He.ga K "law") fd
  g_law : mg "law" = some (.ref (He.ga K "law"))
  n_abs : mg "abs" = none
  n_int : mg "int" = none
  n_len : mg "len" = none
  n_max : mg "max" = none
  n_min : mg "min" = none
  n_range : mg "range" = none
  n_sorted : mg "sorted" = none
  g_ACTIONS : mg "ACTIONS" = some (.ref (He.ga K "ACTIONS"))
  k_ACTIONS : ∃ es n, KDict K w (He.ga K "ACTIONS") es n
  t_ACTIONS : ∀ q ∈ v_ACTIONS, KDct K w (He.ga K "ACTIONS") q.1 (q.2.v K)
section
variable {P : Program} {w : World} {K : PySem.W.Frag} {mg : Str → Option Value} {base : Heap}
theorem c_wrap (T : Txt w K mg) : Cal P w K mg base 1 "wrap" spWrap [] := by
  refine calD T.d_wrap T.g_wrap (fun _ _ _ _ _ _ us hl => match us, hl with | [_], _ => rfl) sc_wrap (fun vs H Q E h => ?_) (fun cdv A outer s H vs Q E hr h => ?_)
  · obtain ⟨n, rfl, _⟩ := h
    rfl
  · obtain ⟨n, rfl, q⟩ := h
    refine ⟨_, (pss_one (ps_ret (pe_op op_sub (pe_op op_mod (pe_op op_add (pv 0) pe_int) pe_int) pe_int))), ?_⟩
    exact ⟨_, rfl, _, _, rfl, rfl, _, _, rfl, rfl, (by show (0 : Int) < 65536; decide), _, _, rfl, rfl, q⟩
theorem bind2 {x : Str} {a b : Str} {st : Stmt} (hb : ∀ (kV doc pm : Value) (an : Option Addr) (cdv ct : Value) (u v : Value), bindArgs (PySem.W.fnOf x x (defArgs st) (defBody st) (defScope st) .none kV doc pm an cdv ct) ⟨[u, v], []⟩ = pure [(a, u), (b, v)]) :
    ∀ (kV doc pm : Value) (an : Option Addr) (cdv ct : Value) (us : List Value), us.length = ([a, b] : List Str).length → bindArgs (PySem.W.fnOf x x (defArgs st) (defBody st) (defScope st) .none kV doc pm an cdv ct) ⟨us, []⟩ = pure (([a, b] : List Str).zip us) :=
  fun kV doc pm an cdv ct us hl => match us, hl with | [u, v], _ => hb kV doc pm an cdv ct u v
theorem len2 {s : Sg} : ∀ vs H Q E, spAct s vs H Q E → vs.length = (["left", "right"] : List Str).length := by
  rintro vs H Q E ⟨l, r, rfl, _⟩
  rfl
theorem c_plus (T : Txt w K mg) : Cal P w K mg base 2 "_plus" (spAct .add) [] := by
  have C_wrap := c_wrap (P := P) (w := w) (base := base) T
  refine calD T.d__plus T.g__plus (bind2 fun _ _ _ _ _ _ _ _ => rfl) sc__plus len2 (fun cdv A outer s H vs Q E hr h => ?_)
  obtain ⟨l, r, rfl, hl, h2, q⟩ := h
  exact ⟨_, (pss_one (ps_ret (pe_c C_wrap hr (by decide) rfl (pa_cons (pe_op op_add (pv 0) (pv 1)) pa_nil)))), _, rfl, _, rfl, _, _, rfl, rfl, _, rfl, q⟩
theorem c_minus (T : Txt w K mg) : Cal P w K mg base 2 "_minus" (spAct .sub) [] := by
  have C_wrap := c_wrap (P := P) (w := w) (base := base) T
  refine calD T.d__minus T.g__minus (bind2 fun _ _ _ _ _ _ _ _ => rfl) sc__minus len2 (fun cdv A outer s H vs Q E hr h => ?_)
  obtain ⟨l, r, rfl, hl, h2, q⟩ := h
  exact ⟨_, (pss_one (ps_ret (pe_c C_wrap hr (by decide) rfl (pa_cons (pe_op op_sub (pv 0) (pv 1)) pa_nil)))), _, rfl, _, rfl, _, _, rfl, rfl, _, rfl, q⟩
theorem c_times (T : Txt w K mg) : Cal P w K mg base 2 "_times" (spAct .mul) [] := by
  have C_wrap := c_wrap (P := P) (w := w) (base := base) T
  refine calD T.d__times T.g__times (bind2 fun _ _ _ _ _ _ _ _ => rfl) sc__times len2 (fun cdv A outer s H vs Q E hr h => ?_)
  obtain ⟨l, r, rfl, hl, h2, q⟩ := h
  exact ⟨_, (pss_one (ps_ret (pe_c C_wrap hr (by decide) rfl (pa_cons (pe_op op_mulX (pv 0) (pv 1)) pa_nil)))), _, rfl, _, rfl, _, _, rfl, rfl, mulX hl.lg h2.lg, _, rfl, q⟩
def spQuo : Sp := fun vs H Q _ => ∃ l r : Int, vs = [.int l, .int r] ∧ Wd l ∧ Wd r ∧ r ≠ 0 ∧ Q (.int (quo l r)) H
theorem c_quo (T : Txt w K mg) : Cal P w K mg base 1 "_quotient" spQuo [] := by
  refine calD T.d__quotient T.g__quotient (bind2 fun _ _ _ _ _ _ _ _ => rfl) sc__quotient (fun vs H Q E h => ?_) (fun cdv A outer s H vs Q E hr h => ?_)
  · obtain ⟨l, r, rfl, _⟩ := h
    rfl
  · obtain ⟨l, r, rfl, hl, h2, h0, q⟩ := h
    refine ⟨_, (pss_cons (ps_set (i := 2) sc__quotient.nd rfl (Or.inl rfl) (pe_op op_fdivW (pe_callB call_abs rfl T.n_abs (by rfl) (pa_cons (pv 0) pa_nil)) (pe_callB call_abs rfl T.n_abs (by rfl) (pa_cons (pv 1) pa_nil))))
      (pss_one (ps_ret (pe_ifExp (pt_cmpR op_eq (pe_cmpR op_lt (pv 0) pe_int (nomark _)) (pe_cmpR op_lt (pv 1) pe_int (nomark _)) (nomark _)) (pv 2) (pe_un un_neg (pv 2)))))), ?_⟩
    have hr0 : 0 < ab r := by
      unfold ab
      split <;> omega
    have hr1 : (ab r).natAbs.log2 < 9000 := Nat.lt_of_le_of_lt (log2_le (n := 20) (by obtain ⟨z1, z2⟩ := h2; unfold ab; split <;> omega)) (by decide)
    refine ⟨_, rfl, _, rfl, _, rfl, _, rfl, _, _, rfl, rfl, ⟨hr0, hr1⟩, ?_⟩
    refine ⟨_, rfl, _, _, rfl, rfl, _, rfl, _, _, rfl, rfl, rfl, _, rfl, ?_⟩
    have q2 : Q (.int (if (decide (l < 0)) = (decide (r < 0)) then ab l / ab r else -(ab l / ab r))) H := q
    refine ifB (fun e => ?_) (fun e => ?_)
    · rw [if_pos (V.bl.inj (of_decide_eq_true e))] at q2
      exact ⟨_, rfl, q2⟩
    · rw [if_neg (fun z => of_decide_eq_false e (congrArg V.bl z))] at q2
      exact ⟨_, rfl, _, rfl, q2⟩
theorem c_divide (T : Txt w K mg) : Cal P w K mg base 2 "_divide" (spAct .div) [] := by
  have C_wrap := c_wrap (P := P) (w := w) (base := base) T
  have C__quotient := c_quo (P := P) (w := w) (base := base) T
  refine calD T.d__divide T.g__divide (bind2 fun _ _ _ _ _ _ _ _ => rfl) sc__divide len2 (fun cdv A outer s H vs Q E hr h => ?_)
  obtain ⟨l, r, rfl, hl, h2, q⟩ := h
  refine ⟨_, (pss_one (ps_ret (pe_ifExp (pt_cmpR op_eq (pv 1) pe_int (nomark _)) pe_non (pe_c C_wrap hr (by decide) rfl (pa_cons (pe_c C__quotient hr (by decide) rfl (pa_cons (pv 0) (pa_cons (pv 1) pa_nil))) pa_nil))))), ?_⟩
  have q2 : Q (if r = 0 then .non else .int (wr (quo l r))) H := q
  refine ⟨_, rfl, rfl, _, rfl, ifB (fun e => ?_) (fun e => ?_)⟩
  · rw [if_pos (V.int.inj (of_decide_eq_true e))] at q2
    exact q2
  · have h0 : r ≠ 0 := fun z => of_decide_eq_false e (congrArg V.int z)
    rw [if_neg h0] at q2
    exact ⟨_, rfl, _, rfl, l, r, rfl, hl, h2, h0, _, rfl, q2⟩
theorem c_rest (T : Txt w K mg) : Cal P w K mg base 2 "_rest" (spAct .rem) [] := by
  have C__quotient := c_quo (P := P) (w := w) (base := base) T
  refine calD T.d__rest T.g__rest (bind2 fun _ _ _ _ _ _ _ _ => rfl) sc__rest len2 (fun cdv A outer s H vs Q E hr h => ?_)
  obtain ⟨l, r, rfl, hl, h2, q⟩ := h
  refine ⟨_, (pss_one (ps_ret (pe_ifExp (pt_cmpR op_eq (pv 1) pe_int (nomark _)) pe_non (pe_op op_sub (pv 0) (pe_op op_mulX (pv 1) (pe_c C__quotient hr (by decide) rfl (pa_cons (pv 0) (pa_cons (pv 1) pa_nil)))))))), ?_⟩
  have q2 : Q (if r = 0 then .non else .int (l - r * quo l r)) H := q
  refine ⟨_, rfl, rfl, _, rfl, ifB (fun e => ?_) (fun e => ?_)⟩
  · rw [if_pos (V.int.inj (of_decide_eq_true e))] at q2
    exact q2
  · have h0 : r ≠ 0 := fun z => of_decide_eq_false e (congrArg V.int z)
    rw [if_neg h0] at q2
    have hq : (quo l r).natAbs.log2 ≤ 2000000 := by
      obtain ⟨m, _, _, _, lo, hi⟩ := quo_at l h0
      refine sm (Nat.lt_of_lt_of_le (show (quo l r).natAbs < 2 ^ 20 from ?_) (by decide))
      obtain ⟨z1, z2⟩ := hl
      unfold ab at lo hi
      split at lo <;> split at hi <;> omega
    exact ⟨_, rfl, _, rfl, _, rfl, _, rfl, l, r, rfl, hl, h2, h0, _, _, rfl, rfl, mulX h2.lg hq, _, _, rfl, rfl, q2⟩
theorem c_and (T : Txt w K mg) : Cal P w K mg base 1 "_both_bits" (spAct .and) [] := by
  refine calD T.d__both_bits T.g__both_bits (bind2 fun _ _ _ _ _ _ _ _ => rfl) sc__both_bits len2 (fun cdv A outer s H vs Q E hr h => ?_)
  obtain ⟨l, r, rfl, hl, h2, q⟩ := h
  exact ⟨_, (pss_one (ps_ret (pe_op op_and (pv 0) (pv 1)))), _, rfl, _, rfl, _, _, rfl, rfl, q⟩
theorem c_or (T : Txt w K mg) : Cal P w K mg base 1 "_any_bits" (spAct .or) [] := by
  refine calD T.d__any_bits T.g__any_bits (bind2 fun _ _ _ _ _ _ _ _ => rfl) sc__any_bits len2 (fun cdv A outer s H vs Q E hr h => ?_)
  obtain ⟨l, r, rfl, hl, h2, q⟩ := h
  exact ⟨_, (pss_one (ps_ret (pe_op op_or (pv 0) (pv 1)))), _, rfl, _, rfl, _, _, rfl, rfl, q⟩
theorem c_xor (T : Txt w K mg) : Cal P w K mg base 1 "_other_bits" (spAct .xor) [] := by
  refine calD T.d__other_bits T.g__other_bits (bind2 fun _ _ _ _ _ _ _ _ => rfl) sc__other_bits len2 (fun cdv A outer s H vs Q E hr h => ?_)
  obtain ⟨l, r, rfl, hl, h2, q⟩ := h
  exact ⟨_, (pss_one (ps_ret (pe_op op_xor (pv 0) (pv 1)))), _, rfl, _, rfl, _, _, rfl, rfl, q⟩
theorem c_up (T : Txt w K mg) : Cal P w K mg base 2 "_up" (spAct .shl) [] := by
  have C_wrap := c_wrap (P := P) (w := w) (base := base) T
  refine calD T.d__up T.g__up (bind2 fun _ _ _ _ _ _ _ _ => rfl) sc__up len2 (fun cdv A outer s H vs Q E hr h => ?_)
  obtain ⟨l, r, rfl, hl, h2, q⟩ := h
  refine ⟨_, (pss_one (ps_ret (pe_c C_wrap hr (by decide) rfl (pa_cons (pe_op op_shl (pv 0) (pe_op op_and (pv 1) pe_int)) pa_nil)))), ?_⟩
  have e : Builtin.bitAnd r 15 = r % 16 := bitAnd_m4 r
  refine ⟨_, rfl, _, rfl, _, _, rfl, rfl, l, Builtin.bitAnd r 15, rfl, rfl, ⟨by rw [e]; omega, by rw [e]; omega, Nat.lt_of_lt_of_le hl.sm (by decide)⟩, _, rfl, ?_⟩
  rw [e]
  exact q
theorem c_down (T : Txt w K mg) : Cal P w K mg base 1 "_down" (spAct .shr) [] := by
  refine calD T.d__down T.g__down (bind2 fun _ _ _ _ _ _ _ _ => rfl) sc__down len2 (fun cdv A outer s H vs Q E hr h => ?_)
  obtain ⟨l, r, rfl, hl, h2, q⟩ := h
  refine ⟨_, (pss_one (ps_ret (pe_op op_shr (pv 0) (pe_op op_and (pv 1) pe_int)))), ?_⟩
  have e : Builtin.bitAnd r 15 = r % 16 := bitAnd_m4 r
  refine ⟨_, rfl, _, rfl, _, _, rfl, rfl, l, Builtin.bitAnd r 15, rfl, rfl, by rw [e]; omega, ?_⟩
  rw [e]
  exact q
theorem c_equal (T : Txt w K mg) : Cal P w K mg base 1 "_equal" (spAct .eq) [] := by
  refine calD T.d__equal T.g__equal (bind2 fun _ _ _ _ _ _ _ _ => rfl) sc__equal len2 (fun cdv A outer s H vs Q E hr h => ?_)
  obtain ⟨l, r, rfl, hl, h2, q⟩ := h
  refine ⟨_, (pss_one (ps_ret (pe_callTy call_int1 rfl T.n_int (by rfl) (pa_cons (pe_cmpR op_eq (pv 0) (pv 1) (nomark _)) pa_nil)))), ?_⟩
  refine ⟨_, rfl, _, rfl, rfl, .inr ⟨_, rfl, ?_⟩⟩
  have e : decide (V.int l = V.int r) = decide (l = r) := decide_eq_decide.mpr ⟨V.int.inj, congrArg V.int⟩
  show Q (.int (b01 (decide (V.int l = V.int r)))) H
  rw [e]
  exact q
theorem c_unequal (T : Txt w K mg) : Cal P w K mg base 1 "_unequal" (spAct .ne) [] := by
  refine calD T.d__unequal T.g__unequal (bind2 fun _ _ _ _ _ _ _ _ => rfl) sc__unequal len2 (fun cdv A outer s H vs Q E hr h => ?_)
  obtain ⟨l, r, rfl, hl, h2, q⟩ := h
  refine ⟨_, (pss_one (ps_ret (pe_callTy call_int1 rfl T.n_int (by rfl) (pa_cons (pe_cmpR op_ne (pv 0) (pv 1) (nomark _)) pa_nil)))), ?_⟩
  refine ⟨_, rfl, _, rfl, rfl, .inr ⟨_, rfl, ?_⟩⟩
  have e : decide (V.int l = V.int r) = decide (l = r) := decide_eq_decide.mpr ⟨V.int.inj, congrArg V.int⟩
  show Q (.int (b01 (!decide (V.int l = V.int r)))) H
  rw [e]
  exact q
theorem c_less (T : Txt w K mg) : Cal P w K mg base 1 "_less" (spAct .lt) [] := by
  refine calD T.d__less T.g__less (bind2 fun _ _ _ _ _ _ _ _ => rfl) sc__less len2 (fun cdv A outer s H vs Q E hr h => ?_)
  obtain ⟨l, r, rfl, hl, h2, q⟩ := h
  refine ⟨_, (pss_one (ps_ret (pe_callTy call_int1 rfl T.n_int (by rfl) (pa_cons (pe_cmpR op_lt (pv 0) (pv 1) (nomark _)) pa_nil)))), ?_⟩
  refine ⟨_, rfl, _, rfl, _, _, rfl, rfl, .inr ⟨_, rfl, ?_⟩⟩
  exact q
theorem c_at_most (T : Txt w K mg) : Cal P w K mg base 1 "_at_most" (spAct .le) [] := by
  refine calD T.d__at_most T.g__at_most (bind2 fun _ _ _ _ _ _ _ _ => rfl) sc__at_most len2 (fun cdv A outer s H vs Q E hr h => ?_)
  obtain ⟨l, r, rfl, hl, h2, q⟩ := h
  refine ⟨_, (pss_one (ps_ret (pe_callTy call_int1 rfl T.n_int (by rfl) (pa_cons (pe_cmpR op_le (pv 0) (pv 1) (nomark _)) pa_nil)))), ?_⟩
  refine ⟨_, rfl, _, rfl, _, _, rfl, rfl, .inr ⟨_, rfl, ?_⟩⟩
  exact q
theorem c_more (T : Txt w K mg) : Cal P w K mg base 1 "_more" (spAct .gt) [] := by
  refine calD T.d__more T.g__more (bind2 fun _ _ _ _ _ _ _ _ => rfl) sc__more len2 (fun cdv A outer s H vs Q E hr h => ?_)
  obtain ⟨l, r, rfl, hl, h2, q⟩ := h
  refine ⟨_, (pss_one (ps_ret (pe_callTy call_int1 rfl T.n_int (by rfl) (pa_cons (pe_cmpR op_gt (pv 0) (pv 1) (nomark _)) pa_nil)))), ?_⟩
  refine ⟨_, rfl, _, rfl, _, _, rfl, rfl, .inr ⟨_, rfl, ?_⟩⟩
  exact q
theorem c_at_least (T : Txt w K mg) : Cal P w K mg base 1 "_at_least" (spAct .ge) [] := by
  refine calD T.d__at_least T.g__at_least (bind2 fun _ _ _ _ _ _ _ _ => rfl) sc__at_least len2 (fun cdv A outer s H vs Q E hr h => ?_)
  obtain ⟨l, r, rfl, hl, h2, q⟩ := h
  refine ⟨_, (pss_one (ps_ret (pe_callTy call_int1 rfl T.n_int (by rfl) (pa_cons (pe_cmpR op_ge (pv 0) (pv 1) (nomark _)) pa_nil)))), ?_⟩
  refine ⟨_, rfl, _, rfl, _, _, rfl, rfl, .inr ⟨_, rfl, ?_⟩⟩
  exact q
theorem c_op (T : Txt w K mg) : Cal P w K mg base 3 "op" spOp [] := by
  refine calD T.d_op T.g_op (fun _ _ _ _ _ _ us hl => match us, hl with | [_, _, _], _ => rfl) sc_op (fun vs H Q E h => ?_) (fun cdv A outer s H vs Q E hr h => ?_)
  · obtain ⟨z, l, r, rfl, _⟩ := h
    rfl
  · obtain ⟨z, l, r, rfl, hl, h2, q⟩ := h
    cases z with
    | add =>
      have LOCG := T.g__plus
      have LOCC := c_plus (P := P) (w := w) (base := base) T
      refine ⟨_, (pss_cons (ps_set (i := 3) sc_op.nd rfl (Or.inl rfl) (pe_ix ix_kdict (pe_gref rfl T.g_ACTIONS) (pv 0) (fun _ _ => rfl)))
      (pss_one (ps_ret (pe_loc LOCG LOCC hr (by decide) (i := 3) rfl (Or.inl rfl) (pa_cons (pv 1) (pa_cons (pv 2) pa_nil)))))), ?_⟩
      exact ⟨_, rfl, _, _, .ref (He.ga K "_plus"), rfl, rfl, T.t_ACTIONS _ (List.mem_of_getElem? (l := v_ACTIONS) (i := 0) rfl), rfl, _, rfl, _, rfl, l, r, rfl, hl, h2, q⟩
    | sub =>
      have LOCG := T.g__minus
      have LOCC := c_minus (P := P) (w := w) (base := base) T
      refine ⟨_, (pss_cons (ps_set (i := 3) sc_op.nd rfl (Or.inl rfl) (pe_ix ix_kdict (pe_gref rfl T.g_ACTIONS) (pv 0) (fun _ _ => rfl)))
      (pss_one (ps_ret (pe_loc LOCG LOCC hr (by decide) (i := 3) rfl (Or.inl rfl) (pa_cons (pv 1) (pa_cons (pv 2) pa_nil)))))), ?_⟩
      exact ⟨_, rfl, _, _, .ref (He.ga K "_minus"), rfl, rfl, T.t_ACTIONS _ (List.mem_of_getElem? (l := v_ACTIONS) (i := 1) rfl), rfl, _, rfl, _, rfl, l, r, rfl, hl, h2, q⟩
    | mul =>
      have LOCG := T.g__times
      have LOCC := c_times (P := P) (w := w) (base := base) T
      refine ⟨_, (pss_cons (ps_set (i := 3) sc_op.nd rfl (Or.inl rfl) (pe_ix ix_kdict (pe_gref rfl T.g_ACTIONS) (pv 0) (fun _ _ => rfl)))
      (pss_one (ps_ret (pe_loc LOCG LOCC hr (by decide) (i := 3) rfl (Or.inl rfl) (pa_cons (pv 1) (pa_cons (pv 2) pa_nil)))))), ?_⟩
      exact ⟨_, rfl, _, _, .ref (He.ga K "_times"), rfl, rfl, T.t_ACTIONS _ (List.mem_of_getElem? (l := v_ACTIONS) (i := 2) rfl), rfl, _, rfl, _, rfl, l, r, rfl, hl, h2, q⟩
    | div =>
      have LOCG := T.g__divide
      have LOCC := c_divide (P := P) (w := w) (base := base) T
      refine ⟨_, (pss_cons (ps_set (i := 3) sc_op.nd rfl (Or.inl rfl) (pe_ix ix_kdict (pe_gref rfl T.g_ACTIONS) (pv 0) (fun _ _ => rfl)))
      (pss_one (ps_ret (pe_loc LOCG LOCC hr (by decide) (i := 3) rfl (Or.inl rfl) (pa_cons (pv 1) (pa_cons (pv 2) pa_nil)))))), ?_⟩
      exact ⟨_, rfl, _, _, .ref (He.ga K "_divide"), rfl, rfl, T.t_ACTIONS _ (List.mem_of_getElem? (l := v_ACTIONS) (i := 3) rfl), rfl, _, rfl, _, rfl, l, r, rfl, hl, h2, q⟩
    | rem =>
      have LOCG := T.g__rest
      have LOCC := c_rest (P := P) (w := w) (base := base) T
      refine ⟨_, (pss_cons (ps_set (i := 3) sc_op.nd rfl (Or.inl rfl) (pe_ix ix_kdict (pe_gref rfl T.g_ACTIONS) (pv 0) (fun _ _ => rfl)))
      (pss_one (ps_ret (pe_loc LOCG LOCC hr (by decide) (i := 3) rfl (Or.inl rfl) (pa_cons (pv 1) (pa_cons (pv 2) pa_nil)))))), ?_⟩
      exact ⟨_, rfl, _, _, .ref (He.ga K "_rest"), rfl, rfl, T.t_ACTIONS _ (List.mem_of_getElem? (l := v_ACTIONS) (i := 4) rfl), rfl, _, rfl, _, rfl, l, r, rfl, hl, h2, q⟩
    | and =>
      have LOCG := T.g__both_bits
      have LOCC := c_and (P := P) (w := w) (base := base) T
      refine ⟨_, (pss_cons (ps_set (i := 3) sc_op.nd rfl (Or.inl rfl) (pe_ix ix_kdict (pe_gref rfl T.g_ACTIONS) (pv 0) (fun _ _ => rfl)))
      (pss_one (ps_ret (pe_loc LOCG LOCC hr (by decide) (i := 3) rfl (Or.inl rfl) (pa_cons (pv 1) (pa_cons (pv 2) pa_nil)))))), ?_⟩
      exact ⟨_, rfl, _, _, .ref (He.ga K "_both_bits"), rfl, rfl, T.t_ACTIONS _ (List.mem_of_getElem? (l := v_ACTIONS) (i := 5) rfl), rfl, _, rfl, _, rfl, l, r, rfl, hl, h2, q⟩
    | or =>
      have LOCG := T.g__any_bits
      have LOCC := c_or (P := P) (w := w) (base := base) T
      refine ⟨_, (pss_cons (ps_set (i := 3) sc_op.nd rfl (Or.inl rfl) (pe_ix ix_kdict (pe_gref rfl T.g_ACTIONS) (pv 0) (fun _ _ => rfl)))
      (pss_one (ps_ret (pe_loc LOCG LOCC hr (by decide) (i := 3) rfl (Or.inl rfl) (pa_cons (pv 1) (pa_cons (pv 2) pa_nil)))))), ?_⟩
      exact ⟨_, rfl, _, _, .ref (He.ga K "_any_bits"), rfl, rfl, T.t_ACTIONS _ (List.mem_of_getElem? (l := v_ACTIONS) (i := 6) rfl), rfl, _, rfl, _, rfl, l, r, rfl, hl, h2, q⟩
    | xor =>
      have LOCG := T.g__other_bits
      have LOCC := c_xor (P := P) (w := w) (base := base) T
      refine ⟨_, (pss_cons (ps_set (i := 3) sc_op.nd rfl (Or.inl rfl) (pe_ix ix_kdict (pe_gref rfl T.g_ACTIONS) (pv 0) (fun _ _ => rfl)))
      (pss_one (ps_ret (pe_loc LOCG LOCC hr (by decide) (i := 3) rfl (Or.inl rfl) (pa_cons (pv 1) (pa_cons (pv 2) pa_nil)))))), ?_⟩
      exact ⟨_, rfl, _, _, .ref (He.ga K "_other_bits"), rfl, rfl, T.t_ACTIONS _ (List.mem_of_getElem? (l := v_ACTIONS) (i := 7) rfl), rfl, _, rfl, _, rfl, l, r, rfl, hl, h2, q⟩
    | shl =>
      have LOCG := T.g__up
      have LOCC := c_up (P := P) (w := w) (base := base) T
      refine ⟨_, (pss_cons (ps_set (i := 3) sc_op.nd rfl (Or.inl rfl) (pe_ix ix_kdict (pe_gref rfl T.g_ACTIONS) (pv 0) (fun _ _ => rfl)))
      (pss_one (ps_ret (pe_loc LOCG LOCC hr (by decide) (i := 3) rfl (Or.inl rfl) (pa_cons (pv 1) (pa_cons (pv 2) pa_nil)))))), ?_⟩
      exact ⟨_, rfl, _, _, .ref (He.ga K "_up"), rfl, rfl, T.t_ACTIONS _ (List.mem_of_getElem? (l := v_ACTIONS) (i := 8) rfl), rfl, _, rfl, _, rfl, l, r, rfl, hl, h2, q⟩
    | shr =>
      have LOCG := T.g__down
      have LOCC := c_down (P := P) (w := w) (base := base) T
      refine ⟨_, (pss_cons (ps_set (i := 3) sc_op.nd rfl (Or.inl rfl) (pe_ix ix_kdict (pe_gref rfl T.g_ACTIONS) (pv 0) (fun _ _ => rfl)))
      (pss_one (ps_ret (pe_loc LOCG LOCC hr (by decide) (i := 3) rfl (Or.inl rfl) (pa_cons (pv 1) (pa_cons (pv 2) pa_nil)))))), ?_⟩
      exact ⟨_, rfl, _, _, .ref (He.ga K "_down"), rfl, rfl, T.t_ACTIONS _ (List.mem_of_getElem? (l := v_ACTIONS) (i := 9) rfl), rfl, _, rfl, _, rfl, l, r, rfl, hl, h2, q⟩
    | eq =>
      have LOCG := T.g__equal
      have LOCC := c_equal (P := P) (w := w) (base := base) T
      refine ⟨_, (pss_cons (ps_set (i := 3) sc_op.nd rfl (Or.inl rfl) (pe_ix ix_kdict (pe_gref rfl T.g_ACTIONS) (pv 0) (fun _ _ => rfl)))
      (pss_one (ps_ret (pe_loc LOCG LOCC hr (by decide) (i := 3) rfl (Or.inl rfl) (pa_cons (pv 1) (pa_cons (pv 2) pa_nil)))))), ?_⟩
      exact ⟨_, rfl, _, _, .ref (He.ga K "_equal"), rfl, rfl, T.t_ACTIONS _ (List.mem_of_getElem? (l := v_ACTIONS) (i := 10) rfl), rfl, _, rfl, _, rfl, l, r, rfl, hl, h2, q⟩
    | ne =>
      have LOCG := T.g__unequal
      have LOCC := c_unequal (P := P) (w := w) (base := base) T
      refine ⟨_, (pss_cons (ps_set (i := 3) sc_op.nd rfl (Or.inl rfl) (pe_ix ix_kdict (pe_gref rfl T.g_ACTIONS) (pv 0) (fun _ _ => rfl)))
      (pss_one (ps_ret (pe_loc LOCG LOCC hr (by decide) (i := 3) rfl (Or.inl rfl) (pa_cons (pv 1) (pa_cons (pv 2) pa_nil)))))), ?_⟩
      exact ⟨_, rfl, _, _, .ref (He.ga K "_unequal"), rfl, rfl, T.t_ACTIONS _ (List.mem_of_getElem? (l := v_ACTIONS) (i := 11) rfl), rfl, _, rfl, _, rfl, l, r, rfl, hl, h2, q⟩
    | lt =>
      have LOCG := T.g__less
      have LOCC := c_less (P := P) (w := w) (base := base) T
      refine ⟨_, (pss_cons (ps_set (i := 3) sc_op.nd rfl (Or.inl rfl) (pe_ix ix_kdict (pe_gref rfl T.g_ACTIONS) (pv 0) (fun _ _ => rfl)))
      (pss_one (ps_ret (pe_loc LOCG LOCC hr (by decide) (i := 3) rfl (Or.inl rfl) (pa_cons (pv 1) (pa_cons (pv 2) pa_nil)))))), ?_⟩
      exact ⟨_, rfl, _, _, .ref (He.ga K "_less"), rfl, rfl, T.t_ACTIONS _ (List.mem_of_getElem? (l := v_ACTIONS) (i := 12) rfl), rfl, _, rfl, _, rfl, l, r, rfl, hl, h2, q⟩
    | le =>
      have LOCG := T.g__at_most
      have LOCC := c_at_most (P := P) (w := w) (base := base) T
      refine ⟨_, (pss_cons (ps_set (i := 3) sc_op.nd rfl (Or.inl rfl) (pe_ix ix_kdict (pe_gref rfl T.g_ACTIONS) (pv 0) (fun _ _ => rfl)))
      (pss_one (ps_ret (pe_loc LOCG LOCC hr (by decide) (i := 3) rfl (Or.inl rfl) (pa_cons (pv 1) (pa_cons (pv 2) pa_nil)))))), ?_⟩
      exact ⟨_, rfl, _, _, .ref (He.ga K "_at_most"), rfl, rfl, T.t_ACTIONS _ (List.mem_of_getElem? (l := v_ACTIONS) (i := 13) rfl), rfl, _, rfl, _, rfl, l, r, rfl, hl, h2, q⟩
    | gt =>
      have LOCG := T.g__more
      have LOCC := c_more (P := P) (w := w) (base := base) T
      refine ⟨_, (pss_cons (ps_set (i := 3) sc_op.nd rfl (Or.inl rfl) (pe_ix ix_kdict (pe_gref rfl T.g_ACTIONS) (pv 0) (fun _ _ => rfl)))
      (pss_one (ps_ret (pe_loc LOCG LOCC hr (by decide) (i := 3) rfl (Or.inl rfl) (pa_cons (pv 1) (pa_cons (pv 2) pa_nil)))))), ?_⟩
      exact ⟨_, rfl, _, _, .ref (He.ga K "_more"), rfl, rfl, T.t_ACTIONS _ (List.mem_of_getElem? (l := v_ACTIONS) (i := 14) rfl), rfl, _, rfl, _, rfl, l, r, rfl, hl, h2, q⟩
    | ge =>
      have LOCG := T.g__at_least
      have LOCC := c_at_least (P := P) (w := w) (base := base) T
      refine ⟨_, (pss_cons (ps_set (i := 3) sc_op.nd rfl (Or.inl rfl) (pe_ix ix_kdict (pe_gref rfl T.g_ACTIONS) (pv 0) (fun _ _ => rfl)))
      (pss_one (ps_ret (pe_loc LOCG LOCC hr (by decide) (i := 3) rfl (Or.inl rfl) (pa_cons (pv 1) (pa_cons (pv 2) pa_nil)))))), ?_⟩
      exact ⟨_, rfl, _, _, .ref (He.ga K "_at_least"), rfl, rfl, T.t_ACTIONS _ (List.mem_of_getElem? (l := v_ACTIONS) (i := 15) rfl), rfl, _, rfl, _, rfl, l, r, rfl, hl, h2, q⟩
end
end Pf
set_option Elab.async false
set_option linter.all false
set_option maxRecDepth 100000
set_option maxHeartbeats 4000000
namespace Pf
open PySem PySem.Spec PyProof.Rows L2 Wc
open C8 (Cal pe_c pe_gc)
section
variable {P : Program} {w : World} {K : PySem.W.Frag} {mg : Str → Option Value} {base : Heap}
theorem c_draw (T : Txt w K mg) : Cal P w K mg base 1 "_law_draw" spDraw [] := by
  refine calD T.d__law_draw T.g__law_draw (fun _ _ _ _ _ _ us hl => match us, hl with | [_, _], _ => rfl) sc__law_draw (fun vs H Q E h => ?_) (fun cdv A outer s H vs Q E hr h => ?_)
  · obtain ⟨p, m, rfl, _⟩ := h
    rfl
  · obtain ⟨p, m, rfl, ⟨b, ok, hp⟩, hm, hm2, q0⟩ := h
    have q : Q (.int (b.val m)) (upd H p (.lst (b.next m).vals)) := q0 _ _ (b.val_lo hm) (b.val_hi hm) ⟨_, ok.next m, upd_same⟩ (Keep.refl p H).own
    refine ⟨_, (pss_cons (ps_if (pt_cmpR op_eq (pe_ix ix_list (pv 0) pe_int (fun _ _ => rfl)) pe_int (nomark _)) (pss_cons (ps_set (i := 2) sc__law_draw.nd rfl (Or.inl rfl) (pe_op op_mod (pe_callTy call_int1 rfl T.n_int (by rfl) (pa_cons (pe_op op_add (pe_op op_add (pe_op op_mulX (pe_ix ix_list (pv 0) pe_int (fun _ _ => rfl)) pe_int) (pe_op op_mulX (pe_ix ix_list (pv 0) pe_int (fun _ _ => rfl)) pe_int)) pe_int) pa_nil)) pe_int))
      (pss_cons (ps_asg (pe_op op_add (pe_op op_mulX (pv 2) pe_int) (pe_op op_mod (pe_callTy call_int1 rfl T.n_int (by rfl) (pa_cons (pe_op op_add (pe_op op_mulX (pv 2) (pv 2)) (pe_op op_mulX (pe_ix ix_list (pv 0) pe_int (fun _ _ => rfl)) pe_int)) pa_nil)) pe_int)) (pg_sub (pv 0) pe_int set_list))
      (pss_one (ps_asg (pv 2) (pg_sub (pv 0) pe_int set_list))))) pss_nil)
      (pss_cons (ps_set (i := 3) sc__law_draw.nd rfl (Or.inl rfl) (pe_ix ix_list (pv 0) pe_int (fun _ _ => rfl)))
      (pss_cons (ps_asg (pe_op op_fdivW (pv 3) (pv 1)) (pg_sub (pv 0) pe_int set_list))
      (pss_one (ps_ret (pe_op op_mod (pe_callTy call_int1 rfl T.n_int (by rfl) (pa_cons (pv 3) pa_nil)) (pv 1))))))), ?_⟩
    -- the first item: is it 0
    refine ⟨_, rfl, p, b.vals, 0, .int b.r, rfl, rfl, SqL.of hp, rfl, rfl, _, rfl, ?_⟩
    refine ifB (fun e => ?_) (fun e => ?_)
    · have e0 : b.r = 0 := V.int.inj (of_decide_eq_true e)
      have ef : b.fill = ⟨b.seed * 2147483629 + (b.seed * b.seed + b.k * 16807) % 2147483629, b.seed, b.k⟩ := if_pos e0
      have hs : b.s.natAbs.log2 ≤ 2000000 := Nat.le_trans ok.s (by decide)
      have hk : b.k.natAbs.log2 ≤ 2000000 := sm (Nat.lt_of_lt_of_le ok.k (by decide))
      have hz : b.seed.natAbs.log2 ≤ 2000000 := sm (by have := b.seed_lo; have := b.seed_hi; omega)
      refine ⟨_, rfl, p, b.vals, 1, .int b.s, rfl, rfl, SqL.of hp, rfl, _, _, rfl, rfl, mulX hs (sm (by decide)), ?_⟩
      refine ⟨_, rfl, p, b.vals, 2, .int b.k, rfl, rfl, SqL.of hp, rfl, _, _, rfl, rfl, mulX hk (sm (by decide)), _, _, rfl, rfl, _, _, rfl, rfl, .inl ⟨_, rfl, _, _, rfl, rfl, (by show (0 : Int) < 2147483647; decide), ?_⟩⟩
      refine ⟨_, rfl, b.seed, _, rfl, rfl, mulX hz (sm (by decide)), _, rfl, _, rfl, b.seed, b.seed, rfl, rfl, mulX hz hz, ?_⟩
      refine ⟨_, rfl, p, b.vals, 2, .int b.k, rfl, rfl, SqL.of hp, rfl, _, _, rfl, rfl, mulX hk (sm (by decide)), _, _, rfl, rfl, .inl ⟨_, rfl, _, _, rfl, rfl, (by show (0 : Int) < 2147483629; decide), ?_⟩⟩
      refine ⟨_, _, rfl, rfl, _, rfl, p, b.vals, 0, 0, rfl, rfl, hp, rfl, ?_⟩
      refine ⟨_, rfl, _, rfl, p, _, 1, 1, rfl, rfl, upd_same, rfl, ?_⟩
      refine ⟨_, rfl, p, _, 0, _, rfl, rfl, SqL.of upd_same, rfl, ?_⟩
      refine ⟨_, rfl, _, rfl, _, _, rfl, rfl, ⟨hm, hm2⟩, _, rfl, p, _, 0, 0, rfl, rfl, upd_same, rfl, ?_⟩
      refine ⟨_, rfl, .inl ⟨_, rfl, _, rfl, _, _, rfl, rfl, hm, ?_⟩⟩
      rw [upd_upd, upd_upd]
      unfold Bag.val Bag.next at q
      rw [ef] at q
      exact q
    · have e0 : ¬ b.r = 0 := fun z => of_decide_eq_false e (congrArg V.int z)
      have ef : b.fill = b := if_neg e0
      refine ⟨_, rfl, p, b.vals, 0, .int b.r, rfl, rfl, SqL.of hp, rfl, ?_⟩
      refine ⟨_, rfl, _, rfl, _, _, rfl, rfl, ⟨hm, hm2⟩, _, rfl, p, b.vals, 0, 0, rfl, rfl, hp, rfl, ?_⟩
      refine ⟨_, rfl, .inl ⟨_, rfl, _, rfl, _, _, rfl, rfl, hm, ?_⟩⟩
      unfold Bag.val Bag.next at q
      rw [ef] at q
      exact q
theorem c_bag (T : Txt w K mg) : Cal P w K mg base 1 "_law_bag" (spBag K) [] := by
  refine calD T.d__law_bag T.g__law_bag (fun _ _ _ _ _ _ us hl => match us, hl with | [_, _], _ => rfl) sc__law_bag (fun vs H Q E h => ?_) (fun cdv A outer s H vs Q E hr h => ?_)
  · obtain ⟨a, ns, k, rfl, _⟩ := h
    rfl
  · obtain ⟨a, ns, k, rfl, hS, hb, k0, k1, q⟩ := h
    have kk : k.natAbs < 2 ^ 60 := by omega
    have fin : ∀ c : Int, c.natAbs.log2 ≤ 1048576 → (∀ p, H p = none → Q (.ref p) (upd H p (.lst [.int c, .int c, .int k]))) ∧ ∀ p, H p = none → Q (.ref p) (upd H p (.lst [.int 0, .int c, .int k])) :=
      fun c hc => ⟨fun p hp => q p _ hp ⟨⟨c, c, k⟩, ⟨hc, kk⟩, upd_same⟩ (Same_upd hp), fun p hp => q p _ hp ⟨⟨0, c, k⟩, ⟨hc, kk⟩, upd_same⟩ (Same_upd hp)⟩
    refine ⟨_, (pss_cons (ps_set (i := 2) sc__law_bag.nd rfl (Or.inl rfl) pe_int)
      (pss_cons (ps_if (pt_cmpR op_lt (pv 1) (pe_callB call_len_seq rfl T.n_len (by rfl) (pa_cons (pv 0) pa_nil)) (nomark _)) (pss_one (ps_set (i := 2) sc__law_bag.nd rfl (Or.inl rfl) (pe_callTy call_int1 rfl T.n_int (by rfl) (pa_cons (pe_ix ix_list (pv 0) (pv 1) (fun _ _ => rfl)) pa_nil)))) pss_nil)
      (pss_cons (ps_if (pt_cmpR op_ge (pv 2) (pe_op op_pow pe_int pe_int) (nomark _)) (pss_one (ps_ret (pe_lst (pa_cons (pv 2) (pa_cons (pv 2) (pa_cons (pv 1) pa_nil)))))) pss_nil)
      (pss_one (ps_ret (pe_lst (pa_cons pe_int (pa_cons (pv 2) (pa_cons (pv 1) pa_nil))))))))), ?_⟩
    refine ⟨_, rfl, _, rfl, a, _, rfl, .inl hS, _, _, rfl, rfl, _, rfl, ?_⟩
    refine ifB (fun e => ?_) (fun e => ?_)
    · have hk : k < ns.length := by simpa using of_decide_eq_true e
      obtain ⟨j, rfl⟩ := Int.eq_ofNat_of_zero_le k0
      have hj : j < ns.length := by omega
      have hi : (ns.map V.int)[j]? = some (.int ns[j]) := by rw [List.getElem?_map, List.getElem?_eq_getElem hj] <;> rfl
      have fj := fin ns[j] (bits_log (hb _ (List.getElem_mem hj)))
      refine ⟨_, rfl, _, rfl, a, _, _, _, rfl, rfl, hS, atI_nat hi, .inl ⟨_, rfl, ?_⟩⟩
      refine ⟨_, rfl, _, _, rfl, rfl, ⟨by decide, by decide, by decide⟩, _, _, rfl, rfl, _, rfl, ?_⟩
      refine ifB (fun _ => ?_) (fun _ => ?_)
      · exact ⟨_, rfl, _, rfl, _, rfl, (by show 3 ≤ sizeLine; decide), fj.1⟩
      · exact ⟨_, rfl, _, rfl, (by show 3 ≤ sizeLine; decide), fj.2⟩
    · have f0 := fin 0 (by decide)
      refine ⟨_, rfl, _, _, rfl, rfl, ⟨by decide, by decide, by decide⟩, _, _, rfl, rfl, _, rfl, ?_⟩
      refine ifB (fun _ => ?_) (fun _ => ?_)
      · exact ⟨_, rfl, _, rfl, _, rfl, (by show 3 ≤ sizeLine; decide), f0.1⟩
      · exact ⟨_, rfl, _, rfl, (by show 3 ≤ sizeLine; decide), f0.2⟩
end
end Pf
set_option Elab.async false
set_option linter.all false
set_option maxRecDepth 100000
set_option maxHeartbeats 4000000
/-! Words are the integers by 65536. -/
namespace Wc
open PySem PySem.Spec PyProof.Rows L2 PySem.W
theorem wr_and (a b : Int) : Builtin.bitAnd (wr a) (wr b) = wr (Builtin.bitAnd a b) := wd_ext (wd_and (wr_wd a) (wr_wd b)) (wr_wd _) fun k hk => by
  rw [bit_and, bit_wr _ hk, bit_wr _ hk, bit_wr _ hk, bit_and]
theorem wr_or (a b : Int) : Builtin.bitOr (wr a) (wr b) = wr (Builtin.bitOr a b) := wd_ext (wd_or (wr_wd a) (wr_wd b)) (wr_wd _) fun k hk => by
  rw [bit_or, bit_wr _ hk, bit_wr _ hk, bit_wr _ hk, bit_or]
theorem wr_xor (a b : Int) : Builtin.bitXor (wr a) (wr b) = wr (Builtin.bitXor a b) := wd_ext (wd_xor (wr_wd a) (wr_wd b)) (wr_wd _) fun k hk => by
  rw [bit_xor, bit_wr _ hk, bit_wr _ hk, bit_wr _ hk, bit_xor]
/-- the operations that do not depend on order and brackets -/
def ov : Sg → Option (Int → Int → Int)
  | .add => some fun l r => wr (l + r)
  | .mul => some fun l r => wr (l * r)
  | .and => some Builtin.bitAnd
  | .or => some Builtin.bitOr
  | .xor => some Builtin.bitXor
  | _ => none
theorem ov_eq {s : Sg} {f : Int → Int → Int} (h : ov s = some f) (l r : Int) : opV s l r = .int (f l r) := by
  cases s <;> first | (cases h; rfl) | cases h
theorem ov_wd {s : Sg} {f : Int → Int → Int} (h : ov s = some f) {l r : Int} (hl : Wd l) (hr : Wd r) : Wd (f l r) := by
  cases s <;> first | (cases h; first | exact wr_wd _ | exact wd_and hl hr | exact wd_or hl hr | exact wd_xor hl hr) | cases h
theorem ov_comm {s : Sg} {f : Int → Int → Int} (h : ov s = some f) {l r : Int} (hl : Wd l) (hr : Wd r) : f l r = f r l := by
  cases s with
  | add => cases h; show wr (l + r) = wr (r + l); rw [Int.add_comm]
  | mul => cases h; show wr (l * r) = wr (r * l); rw [Int.mul_comm]
  | and => cases h; exact bitAnd_comm l r
  | or => cases h; exact bitOr_comm l r
  | xor => cases h; rw [bitXor_and, bitXor_and, bitAnd_comm, Int.add_comm]
  | _ => cases h
theorem ov_assoc {s : Sg} {f : Int → Int → Int} (h : ov s = some f) {l r t : Int} (hl : Wd l) (hr : Wd r) (ht : Wd t) : f (f l r) t = f l (f r t) := by
  cases s with
  | add => cases h; show wr (wr (l + r) + t) = wr (l + wr (r + t)); rw [wr_add_l, wr_add_r, Int.add_assoc]
  | mul => cases h; show wr (wr (l * r) * t) = wr (l * wr (r * t)); rw [wr_mul_l, wr_mul_r, Int.mul_assoc]
  | and =>
    cases h
    refine wd_ext (wd_and (wd_and hl hr) ht) (wd_and hl (wd_and hr ht)) fun k _ => ?_
    rw [bit_and, bit_and, bit_and, bit_and, Int.mul_assoc]
  | or =>
    cases h
    refine wd_ext (wd_or (wd_or hl hr) ht) (wd_or hl (wd_or hr ht)) fun k _ => ?_
    rw [bit_or, bit_or, bit_or, bit_or]
    rcases bit_01 l k with a | a <;> rcases bit_01 r k with b | b <;> rcases bit_01 t k with c | c <;> rw [a, b, c] <;> decide
  | xor =>
    cases h
    refine wd_ext (wd_xor (wd_xor hl hr) ht) (wd_xor hl (wd_xor hr ht)) fun k _ => ?_
    rw [bit_xor, bit_xor, bit_xor, bit_xor]
    rcases bit_01 l k with a | a <;> rcases bit_01 r k with b | b <;> rcases bit_01 t k with c | c <;> rw [a, b, c] <;> decide
  | _ => cases h
theorem wr_shl (a b : Int) : wr (wr a * 2 ^ (wr b % 16).toNat) = wr (a * 2 ^ (b % 16).toNat) := by
  have e : wr b % 16 = b % 16 := by
    unfold wr
    omega
  rw [e, wr_mul_l]
theorem wr_spread (l r t : Int) : wr (l * wr (r + t)) = wr (wr (l * r) + wr (l * t)) := by
  rw [wr_mul_r, wr_add_l, wr_add_r, Int.mul_add]
theorem wr_back {l r : Int} (hl : Wd l) (h : r ≠ 0) : wr (wr (wr (quo l r) * r) + (l - r * quo l r)) = l := by
  have e : quo l r * r + (l - r * quo l r) = l := by
    rw [Int.mul_comm]
    omega
  rw [wr_mul_l, wr_add_l, e, wr_of hl]
end Wc
set_option Elab.async false
set_option linter.all false
set_option maxRecDepth 100000
set_option maxHeartbeats 4000000
namespace Pf
open PySem PySem.Spec PyProof.Rows L2 Wc
open C8 (Cal pe_c pe_gc)
section
variable {P : Program} {w : World} {K : PySem.W.Frag} {mg : Str → Option Value} {base : Heap}
def spInteger : Sp := fun vs H Q _ => ∃ (p : Addr), vs = [.ref p] ∧ Bg H p ∧ ∀ (n : Int) (H' : Hp), n.natAbs < 2 ^ 140 → Bg H' p → Keep p H H' → Q (.int n) H'
theorem c_integer (T : Txt w K mg) : Cal P w K mg base 2 "_law_integer" spInteger [] := by
  have C__law_draw := c_draw (P := P) (w := w) (base := base) T
  refine calD T.d__law_integer T.g__law_integer (fun _ _ _ _ _ _ us hl => match us, hl with | [_], _ => rfl) sc__law_integer (fun vs H Q E h => ?_) (fun cdv A outer s H vs Q E hr h => ?_)
  · obtain ⟨p, rfl, _⟩ := h
    rfl
  · obtain ⟨p, rfl, bg, q⟩ := h
    refine ⟨_, (pss_cons (ps_set (i := 1) sc__law_integer.nd rfl (Or.inl rfl) (pe_op op_sub (pe_c C__law_draw hr (by decide) rfl (pa_cons (pv 0) (pa_cons pe_int pa_nil))) pe_int))
      (pss_cons (ps_if (pt_cmpR op_eq (pe_c C__law_draw hr (by decide) rfl (pa_cons (pv 0) (pa_cons pe_int pa_nil))) pe_int (nomark _)) (pss_one (ps_set (i := 1) sc__law_integer.nd rfl (Or.inl rfl) (pe_ix ix_list (pe_lst (pa_cons pe_int (pa_cons pe_int (pa_cons (pe_un un_neg pe_int) (pa_cons pe_int (pa_cons (pe_un un_neg pe_int) (pa_cons pe_int (pa_cons (pe_un un_neg pe_int) pa_nil)))))))) (pe_c C__law_draw hr (by decide) rfl (pa_cons (pv 0) (pa_cons pe_int pa_nil))) (fun _ _ => rfl)))) pss_nil)
      (pss_one (ps_ret (pe_op op_add (pv 1) (pe_op op_mulX pe_int (pe_ix ix_list (pe_lst (pa_cons pe_int (pa_cons pe_int (pa_cons (pe_op op_sub (pe_c C__law_draw hr (by decide) rfl (pa_cons (pv 0) (pa_cons pe_int pa_nil))) pe_int) (pa_cons (pe_op op_mulX (pe_op op_sub (pe_c C__law_draw hr (by decide) rfl (pa_cons (pv 0) (pa_cons (pe_op op_pow pe_int pe_int) pa_nil))) pe_int) (pe_op op_pow pe_int pe_int)) pa_nil))))) (pe_c C__law_draw hr (by decide) rfl (pa_cons (pv 0) (pa_cons pe_int pa_nil))) (fun _ _ => rfl)))))))), ?_⟩
    -- what is handed back, from any number
    have fin : ∀ (n : Int) (H0 : Hp), n.natAbs < 2 ^ 20 → Bg H0 p → Keep p H H0 → ∀ (z3 z4 z7 : Int) (H1 H2 : Hp) (l : Addr), 0 ≤ z3 → z3 < 100 → 0 ≤ z4 → z4 < 10 ^ 9 → 0 ≤ z7 → z7 < 4 → Bg H2 p → Keep p H H1 → Keep p H1 H2 →
        (atI (([0, 0, z3 - 50, (z4 - 7) * 10 ^ 15] : List Int).map V.int) z7 = some (.int (([0, 0, z3 - 50, (z4 - 7) * 10 ^ 15] : List Int).getD z7.toNat 0))) ∧ CMulX 65536 (([0, 0, z3 - 50, (z4 - 7) * 10 ^ 15] : List Int).getD z7.toNat 0) ∧ Q (.int (n + 65536 * ([0, 0, z3 - 50, (z4 - 7) * 10 ^ 15] : List Int).getD z7.toNat 0)) H2 := by
      intro n H0 hn bg0 k0 z3 z4 z7 H1 H2 l lo3 hi3 lo4 hi4 lo7 hi7 bg2 k1 k2
      have small : (([0, 0, z3 - 50, (z4 - 7) * 10 ^ 15] : List Int).getD z7.toNat 0).natAbs < 2 ^ 110 := by
        refine menu_all (q := fun x => x.natAbs < 2 ^ 110) _ (fun x hx => ?_) (by decide) _
        simp only [List.mem_cons, List.not_mem_nil, or_false] at hx
        rcases hx with rfl | rfl | rfl | rfl <;> omega
      refine ⟨menu _ lo7 hi7, mulX (sm (by decide)) (sm (by omega)), q _ _ (by omega) bg2 (k1.trans k2)⟩
    refine ⟨_, rfl, p, 65536, rfl, bg, by decide, by decide, fun z1 H1 lo1 hi1 bg1 k1 => ⟨_, _, rfl, rfl, ?_⟩⟩
    refine ⟨_, rfl, p, 3, rfl, bg1, by decide, by decide, fun z2 H2 lo2 hi2 bg2 k2 => ⟨rfl, _, rfl, ?_⟩⟩
    have kk2 : Keep p H H2 := k1.trans k2
    -- the rest of the body, from any number
    refine ifB (fun _ => ?_) (fun _ => ?_)
    · refine ⟨_, rfl, _, rfl, _, rfl, by show 7 ≤ sizeLine; decide, fun l nl => ?_⟩
      refine ⟨_, rfl, p, 7, rfl, (Same_upd nl).bgw bg2, by decide, by decide, fun z H3 lo hi bg3 k3 => ?_⟩
      have hl := k3 l _ upd_same (bg2.ne nl).symm
      refine ⟨l, ([0, 1, -1, 32767, -32768, 2, -2] : List Int).map V.int, _, _, rfl, rfl, SqL.of hl, menu _ lo hi, ?_⟩
      have hn : (([0, 1, -1, 32767, -32768, 2, -2] : List Int).getD z.toNat 0).natAbs < 2 ^ 20 := menu_all (q := fun x => x.natAbs < 2 ^ 20) _ (by decide) (by decide) _
      have kk3 : Keep p H H3 := (kk2.trans (Same_upd nl).keepw).trans k3
      refine ⟨_, rfl, _, rfl, p, 100, rfl, bg3, by decide, by decide, fun z3 H4 lo3 hi3 bg4 k4 => ⟨_, _, rfl, rfl, ?_⟩⟩
      refine ⟨_, rfl, _, _, rfl, rfl, ⟨by decide, by decide, by decide⟩, p, _, rfl, bg4, by decide, by decide, fun z4 H5 lo4 hi4 bg5 k5 => ⟨_, _, rfl, rfl, ?_⟩⟩
      have hi4' : z4 < 10 ^ 9 := hi4
      refine ⟨_, _, rfl, rfl, ⟨by decide, by decide, by decide⟩, _, _, rfl, rfl, mulX (sm (by omega)) (sm (by decide)), by show 4 ≤ sizeLine; decide, fun l6 nl6 => ?_⟩
      refine ⟨_, rfl, p, 4, rfl, (Same_upd nl6).bgw bg5, by decide, by decide, fun z7 H7 lo7 hi7 bg7 k7 => ?_⟩
      have hl7 := k7 l6 _ upd_same (bg5.ne nl6).symm
      obtain ⟨f1, f2, f3⟩ := fin _ H3 hn bg3 kk3 z3 z4 z7 _ H7 l6 lo3 hi3 lo4 hi4' lo7 hi7 bg7 (((kk3.trans k4).trans k5).trans (Same_upd nl6).keepw) k7
      exact ⟨l6, _, _, _, rfl, rfl, SqL.of hl7, f1, _, _, rfl, rfl, f2, _, _, rfl, rfl, f3⟩
    · have hn : (z1 - 32768).natAbs < 2 ^ 20 := by omega
      refine ⟨_, rfl, _, rfl, p, 100, rfl, bg2, by decide, by decide, fun z3 H4 lo3 hi3 bg4 k4 => ⟨_, _, rfl, rfl, ?_⟩⟩
      refine ⟨_, rfl, _, _, rfl, rfl, ⟨by decide, by decide, by decide⟩, p, _, rfl, bg4, by decide, by decide, fun z4 H5 lo4 hi4 bg5 k5 => ⟨_, _, rfl, rfl, ?_⟩⟩
      have hi4' : z4 < 10 ^ 9 := hi4
      refine ⟨_, _, rfl, rfl, ⟨by decide, by decide, by decide⟩, _, _, rfl, rfl, mulX (sm (by omega)) (sm (by decide)), by show 4 ≤ sizeLine; decide, fun l6 nl6 => ?_⟩
      refine ⟨_, rfl, p, 4, rfl, (Same_upd nl6).bgw bg5, by decide, by decide, fun z7 H7 lo7 hi7 bg7 k7 => ?_⟩
      have hl7 := k7 l6 _ upd_same (bg5.ne nl6).symm
      obtain ⟨f1, f2, f3⟩ := fin _ H2 hn bg2 kk2 z3 z4 z7 _ H7 l6 lo3 hi3 lo4 hi4' lo7 hi7 bg7 (((kk2.trans k4).trans k5).trans (Same_upd nl6).keepw) k7
      exact ⟨l6, _, _, _, rfl, rfl, SqL.of hl7, f1, _, _, rfl, rfl, f2, _, _, rfl, rfl, f3⟩
def spPow : Sp := fun vs H Q _ => ∃ n : Int, vs = [.int n] ∧ 0 ≤ n ∧ n ≤ 16 ∧ Q (.int (2 ^ n.toNat)) H
theorem pow_small {n : Nat} (h : n ≤ 16) : ((2 : Int) ^ n).natAbs < 2 ^ 20 := by
  rw [Int.natAbs_pow]
  exact Nat.pow_lt_pow_of_lt (by decide) (by omega)
theorem c_pow (T : Txt w K mg) : Cal P w K mg base 1 "_law_power" spPow [] := by
  refine calD T.d__law_power T.g__law_power (fun _ _ _ _ _ _ us hl => match us, hl with | [_], _ => rfl) sc__law_power (fun vs H Q E h => ?_) (fun cdv A outer s H vs Q E hr h => ?_)
  · obtain ⟨p, rfl, _⟩ := h
    rfl
  · obtain ⟨n, rfl, n0, n1, q⟩ := h
    refine ⟨_, (pss_cons (ps_set (i := 1) sc__law_power.nd rfl (Or.inl rfl) pe_int)
      (pss_cons (ps_for PassesOwn.never rfl (pi_range1 rfl T.n_range (pa_cons (pv 0) pa_nil)) (pg_name (i := 2) sc__law_power.nd rfl (Or.inl rfl))
      (pss_one (ps_set (i := 1) sc__law_power.nd rfl (Or.inl rfl) (pe_op op_mulX pe_int (pv 1)))))
      (pss_one (ps_ret (pv 1))))), ?_⟩
    refine ⟨_, rfl, _, rfl, by omega, by omega, for_range (fun i σ H1 => ∃ x, σ = [some (.int n), some (.int (2 ^ i)), x] ∧ H1 = H) ⟨none, rfl, rfl⟩ ?_ ?_⟩
    · rintro i σ H1 hi ⟨x, rfl, rfl⟩
      refine ⟨_, rfl, _, _, rfl, rfl, mulX (by decide) (sm (Nat.lt_of_lt_of_le (pow_small (by omega)) (by decide))), some (.int (0 + i)), ?_, rfl⟩
      rw [Int.pow_succ, Int.mul_comm]
      rfl
    · rintro σ H1 ⟨x, rfl, rfl⟩
      exact ⟨_, rfl, q⟩
end
end Pf
set_option Elab.async false
set_option linter.all false
set_option maxRecDepth 100000
set_option maxHeartbeats 4000000
namespace Pf
open PySem PySem.Spec PyProof.Rows L2 Wc
open C8 (Cal pe_c pe_gc)
section
variable {P : Program} {w : World} {K : PySem.W.Frag} {mg : Str → Option Value} {base : Heap}
def spRing : Sp := fun vs H Q _ => ∃ (a b c : Int), vs = [.int a, .int b, .int c] ∧ a.natAbs < 2 ^ 200 ∧ b.natAbs < 2 ^ 200 ∧ ∀ H', Same H H' → Q (.bl true) H'
def RingI (a b c : Int) (H0 : Hp) : Nat → L2.St → Hp → Prop := fun i σ H => ∃ x, σ = [some (V.int a), some (.int b), some (.int c), some (.int (wr a)), some (.int (wr b)), some (.int (wr c)), x] ∧ H = H0
theorem c_ring (T : Txt w K mg) : Cal P w K mg base 4 "_law_ring" spRing [] := by
  have C_wrap := c_wrap (P := P) (w := w) (base := base) T
  have C_op := c_op (P := P) (w := w) (base := base) T
  have C__law_power := c_pow (P := P) (w := w) (base := base) T
  refine calD T.d__law_ring T.g__law_ring (fun _ _ _ _ _ _ us hl => match us, hl with | [_, _, _], _ => rfl) sc__law_ring (fun vs H Q E h => ?_) (fun cdv A outer s H vs Q E hr h => ?_)
  · obtain ⟨a, b, c, rfl, _⟩ := h
    rfl
  · obtain ⟨a, b, c, rfl, ha, hb, q⟩ := h
    refine ⟨_, (pss_cons (ps_set (i := 3) sc__law_ring.nd rfl (Or.inl rfl) (pe_c C_wrap hr (by decide) rfl (pa_cons (pv 0) pa_nil)))
      (pss_cons (ps_set (i := 4) sc__law_ring.nd rfl (Or.inl rfl) (pe_c C_wrap hr (by decide) rfl (pa_cons (pv 1) pa_nil)))
      (pss_cons (ps_set (i := 5) sc__law_ring.nd rfl (Or.inl rfl) (pe_c C_wrap hr (by decide) rfl (pa_cons (pv 2) pa_nil)))
      (pss_cons (ps_if (PW.pt (pw_or (pt_cmpR op_ne (pe_c C_op hr (by decide) rfl (pa_cons pe_str (pa_cons (pv 3) (pa_cons (pv 4) pa_nil)))) (pe_c C_wrap hr (by decide) rfl (pa_cons (pe_op op_add (pv 0) (pv 1)) pa_nil)) (nomark _)) (pw_or1 (pt_cmpR op_ne (pe_c C_op hr (by decide) rfl (pa_cons pe_str (pa_cons (pv 3) (pa_cons (pv 4) pa_nil)))) (pe_c C_wrap hr (by decide) rfl (pa_cons (pe_op op_sub (pv 0) (pv 1)) pa_nil)) (nomark _))))) (pss_one (ps_ret pe_bl)) pss_nil)
      (pss_cons (ps_if (pt_cmpR op_ne (pe_c C_op hr (by decide) rfl (pa_cons pe_str (pa_cons (pv 3) (pa_cons (pv 4) pa_nil)))) (pe_c C_wrap hr (by decide) rfl (pa_cons (pe_op op_mulX (pv 0) (pv 1)) pa_nil)) (nomark _)) (pss_one (ps_ret pe_bl)) pss_nil)
      (pss_cons (ps_if (PW.pt (pw_or (pt_cmpR op_ne (pe_c C_op hr (by decide) rfl (pa_cons pe_str (pa_cons (pv 3) (pa_cons (pv 4) pa_nil)))) (pe_c C_wrap hr (by decide) rfl (pa_cons (pe_op op_and (pv 0) (pv 1)) pa_nil)) (nomark _)) (pw_or1 (pt_cmpR op_ne (pe_c C_op hr (by decide) rfl (pa_cons pe_str (pa_cons (pv 3) (pa_cons (pv 4) pa_nil)))) (pe_c C_wrap hr (by decide) rfl (pa_cons (pe_op op_or (pv 0) (pv 1)) pa_nil)) (nomark _))))) (pss_one (ps_ret pe_bl)) pss_nil)
      (pss_cons (ps_if (PW.pt (pw_or (pt_cmpR op_ne (pe_c C_op hr (by decide) rfl (pa_cons pe_str (pa_cons (pv 3) (pa_cons (pv 4) pa_nil)))) (pe_c C_wrap hr (by decide) rfl (pa_cons (pe_op op_xor (pv 0) (pv 1)) pa_nil)) (nomark _)) (pw_or1 (pt_cmpR op_ne (pe_c C_op hr (by decide) rfl (pa_cons pe_str (pa_cons (pv 3) (pa_cons (pv 4) pa_nil)))) (pe_c C_wrap hr (by decide) rfl (pa_cons (pe_op op_mulX (pv 0) (pe_c C__law_power hr (by decide) rfl (pa_cons (pe_op op_mod (pe_callTy call_int1 rfl T.n_int (by rfl) (pa_cons (pv 1) pa_nil)) pe_int) pa_nil))) pa_nil)) (nomark _))))) (pss_one (ps_ret pe_bl)) pss_nil)
      (pss_cons (ps_for PassesOwn.never rfl (pi_list (pe_lst (pa_cons pe_str (pa_cons pe_str (pa_cons pe_str (pa_cons pe_str (pa_cons pe_str pa_nil))))))) (pg_name (i := 6) sc__law_ring.nd rfl (Or.inl rfl))
      (pss_cons (ps_if (pt_cmpR op_ne (pe_c C_op hr (by decide) rfl (pa_cons (pv 6) (pa_cons (pv 3) (pa_cons (pv 4) pa_nil)))) (pe_c C_op hr (by decide) rfl (pa_cons (pv 6) (pa_cons (pv 4) (pa_cons (pv 3) pa_nil)))) (nomark _)) (pss_one (ps_ret pe_bl)) pss_nil)
      (pss_one (ps_if (pt_cmpR op_ne (pe_c C_op hr (by decide) rfl (pa_cons (pv 6) (pa_cons (pe_c C_op hr (by decide) rfl (pa_cons (pv 6) (pa_cons (pv 3) (pa_cons (pv 4) pa_nil)))) (pa_cons (pv 5) pa_nil)))) (pe_c C_op hr (by decide) rfl (pa_cons (pv 6) (pa_cons (pv 3) (pa_cons (pe_c C_op hr (by decide) rfl (pa_cons (pv 6) (pa_cons (pv 4) (pa_cons (pv 5) pa_nil)))) pa_nil)))) (nomark _)) (pss_one (ps_ret pe_bl)) pss_nil))))
      (pss_one (ps_ret (pe_cmpR op_eq (pe_c C_op hr (by decide) rfl (pa_cons pe_str (pa_cons (pv 3) (pa_cons (pe_c C_op hr (by decide) rfl (pa_cons pe_str (pa_cons (pv 4) (pa_cons (pv 5) pa_nil)))) pa_nil)))) (pe_c C_op hr (by decide) rfl (pa_cons pe_str (pa_cons (pe_c C_op hr (by decide) rfl (pa_cons pe_str (pa_cons (pv 3) (pa_cons (pv 4) pa_nil)))) (pa_cons (pe_c C_op hr (by decide) rfl (pa_cons pe_str (pa_cons (pv 3) (pa_cons (pv 5) pa_nil)))) pa_nil)))) (nomark _)))))))))))), ?_⟩
    refine ⟨_, rfl, _, rfl, _, rfl, _, rfl, _, rfl, _, rfl, ?_⟩
    -- sums and differences
    refine ⟨_, rfl, _, rfl, .add, _, _, rfl, wr_wd _, wr_wd _, _, rfl, _, rfl, _, _, rfl, rfl, _, rfl, rfl, _, rfl, neqF (congrArg V.int (show wr (wr a + wr b) = wr (a + b) by rw [wr_add_l, wr_add_r])) ?_⟩
    refine ⟨_, rfl, _, rfl, .sub, _, _, rfl, wr_wd _, wr_wd _, _, rfl, _, rfl, _, _, rfl, rfl, _, rfl, rfl, _, rfl, neqF (congrArg V.int (show wr (wr a - wr b) = wr (a - b) by rw [wr_sub_l, wr_sub_r])) ?_⟩
    -- products
    refine ⟨_, rfl, _, rfl, .mul, _, _, rfl, wr_wd _, wr_wd _, _, rfl, _, rfl, _, _, rfl, rfl, mulX (sm ha) (sm hb), _, rfl, rfl, _, rfl, neqF (congrArg V.int (show wr (wr a * wr b) = wr (a * b) by rw [wr_mul_l, wr_mul_r])) ?_⟩
    -- bits
    refine ⟨_, rfl, _, rfl, .and, _, _, rfl, wr_wd _, wr_wd _, _, rfl, _, rfl, _, _, rfl, rfl, _, rfl, rfl, _, rfl, neqF (congrArg V.int (wr_and a b)) ?_⟩
    refine ⟨_, rfl, _, rfl, .or, _, _, rfl, wr_wd _, wr_wd _, _, rfl, _, rfl, _, _, rfl, rfl, _, rfl, rfl, _, rfl, neqF (congrArg V.int (wr_or a b)) ?_⟩
    refine ⟨_, rfl, _, rfl, .xor, _, _, rfl, wr_wd _, wr_wd _, _, rfl, _, rfl, _, _, rfl, rfl, _, rfl, rfl, _, rfl, neqF (congrArg V.int (wr_xor a b)) ?_⟩
    -- shifts
    have hp : (b % 16).toNat ≤ 16 := by omega
    refine ⟨_, rfl, _, rfl, .shl, _, _, rfl, wr_wd _, wr_wd _, _, rfl, _, rfl, .inl ⟨_, rfl, _, _, rfl, rfl, (by show (0 : Int) < 16; decide), b % 16, rfl, by omega, by omega, ?_⟩⟩
    refine ⟨_, _, rfl, rfl, mulX (sm ha) (sm (Nat.lt_of_lt_of_le (pow_small hp) (by decide))), _, rfl, rfl, _, rfl, neqF (congrArg V.int (wr_shl a b)) ?_⟩
    -- order and brackets
    refine ⟨by show 5 ≤ sizeLine; decide, fun l nl => ⟨l, rfl, ⟨_, SqL.of upd_same⟩, ?_⟩⟩
    refine for_list (xs := [.str (Str.ofString "+"), .str (Str.ofString "*"), .str (Str.ofString "&"), .str (Str.ofString "|"), .str (Str.ofString "^")]) (RingI a b c (upd H l (.lst [.str (Str.ofString "+"), .str (Str.ofString "*"), .str (Str.ofString "&"), .str (Str.ofString "|"), .str (Str.ofString "^")]))) ⟨_, rfl, rfl⟩ ?_ ?_ ?_
    · rintro i σ H1 _ ⟨x, rfl, rfl⟩
      exact SqL.of upd_same
    · rintro i x σ H1 hx ⟨y, rfl, rfl⟩
      have hs : ∃ (s : Sg) (f : Int → Int → Int), ov s = some f ∧ x = .str s.z := by
        match i, hx with
        | 0, hx => cases hx; exact ⟨.add, _, rfl, rfl⟩
        | 1, hx => cases hx; exact ⟨.mul, _, rfl, rfl⟩
        | 2, hx => cases hx; exact ⟨.and, _, rfl, rfl⟩
        | 3, hx => cases hx; exact ⟨.or, _, rfl, rfl⟩
        | 4, hx => cases hx; exact ⟨.xor, _, rfl, rfl⟩
      obtain ⟨s, f, hf, rfl⟩ := hs
      have wa := wr_wd a
      have wb := wr_wd b
      have wc := wr_wd c
      refine ⟨_, rfl, _, rfl, _, rfl, s, _, _, rfl, wa, wb, ?_⟩
      rw [ov_eq hf]
      refine ⟨_, rfl, _, rfl, _, rfl, s, _, _, rfl, wb, wa, ?_⟩
      rw [ov_eq hf]
      refine ⟨rfl, _, rfl, neqF (congrArg V.int (ov_comm hf wa wb)) ?_⟩
      refine ⟨_, rfl, _, rfl, _, rfl, _, rfl, s, _, _, rfl, wa, wb, ?_⟩
      rw [ov_eq hf]
      refine ⟨_, rfl, s, _, _, rfl, ov_wd hf wa wb, wc, ?_⟩
      rw [ov_eq hf]
      refine ⟨_, rfl, _, rfl, _, rfl, _, rfl, _, rfl, s, _, _, rfl, wb, wc, ?_⟩
      rw [ov_eq hf]
      refine ⟨s, _, _, rfl, wa, ov_wd hf wb wc, ?_⟩
      rw [ov_eq hf]
      refine ⟨rfl, _, rfl, neqF (congrArg V.int (ov_assoc hf wa wb wc)) ?_⟩
      exact ⟨_, rfl, rfl⟩
    · rintro σ H1 ⟨x, rfl, rfl⟩
      refine ⟨_, rfl, _, rfl, _, rfl, .add, _, _, rfl, wr_wd _, wr_wd _, .mul, _, _, rfl, wr_wd _, wr_wd _, ?_⟩
      refine ⟨_, rfl, _, rfl, .mul, _, _, rfl, wr_wd _, wr_wd _, _, rfl, _, rfl, .mul, _, _, rfl, wr_wd _, wr_wd _, .add, _, _, rfl, wr_wd _, wr_wd _, rfl, ?_⟩
      have e : decide (V.int (wr (wr a * wr (wr b + wr c))) = V.int (wr (wr (wr a * wr b) + wr (wr a * wr c)))) = true := decide_eq_true (congrArg V.int (wr_spread _ _ _))
      have q2 := q _ (Same_upd (o := .lst [.str (Str.ofString "+"), .str (Str.ofString "*"), .str (Str.ofString "&"), .str (Str.ofString "|"), .str (Str.ofString "^")]) nl)
      rw [← e] at q2
      exact q2
def spDiv : Sp := fun vs H Q _ => ∃ (l r : Int), vs = [.int l, .int r] ∧ Wd l ∧ Wd r ∧ Q (.bl true) H
theorem c_div (T : Txt w K mg) : Cal P w K mg base 4 "_law_division" spDiv [] := by
  have C_op := c_op (P := P) (w := w) (base := base) T
  have C__law_power := c_pow (P := P) (w := w) (base := base) T
  refine calD T.d__law_division T.g__law_division (fun _ _ _ _ _ _ us hl => match us, hl with | [_, _], _ => rfl) sc__law_division (fun vs H Q E h => ?_) (fun cdv A outer s H vs Q E hr h => ?_)
  · obtain ⟨a, b, rfl, _⟩ := h
    rfl
  · obtain ⟨l, r, rfl, hl, h2, q⟩ := h
    refine ⟨_, (pss_cons (ps_set (i := 2) sc__law_division.nd rfl (Or.inl rfl) (pe_c C__law_power hr (by decide) rfl (pa_cons (pe_op op_mod (pe_callTy call_int1 rfl T.n_int (by rfl) (pa_cons (pv 1) pa_nil)) pe_int) pa_nil)))
      (pss_cons (ps_set (i := 3) sc__law_division.nd rfl (Or.inl rfl) (pe_c C_op hr (by decide) rfl (pa_cons pe_str (pa_cons (pv 0) (pa_cons (pv 1) pa_nil)))))
      (pss_cons (ps_if (PW.pt (pw_or (pt_cmpR op_gt (pe_op op_mulX (pv 3) (pv 2)) (pv 0) (nomark _)) (pw_or1 (pt_cmpR op_le (pe_op op_mulX (pe_op op_add (pv 3) pe_int) (pv 2)) (pv 0) (nomark _))))) (pss_one (ps_ret pe_bl)) pss_nil)
      (pss_cons (ps_if (pt_cmpR op_eq (pv 1) pe_int (nomark _)) (pss_one (ps_ret (pe_and (pe_cmpR op_isN (pe_c C_op hr (by decide) rfl (pa_cons pe_str (pa_cons (pv 0) (pa_cons (pv 1) pa_nil)))) pe_non (nomark _)) (pe_one (pe_cmpR op_isN (pe_c C_op hr (by decide) rfl (pa_cons pe_str (pa_cons (pv 0) (pa_cons (pv 1) pa_nil)))) pe_non (nomark _)))))) pss_nil)
      (pss_cons (ps_set (i := 4) sc__law_division.nd rfl (Or.inl rfl) (pe_c C_op hr (by decide) rfl (pa_cons pe_str (pa_cons (pv 0) (pa_cons (pv 1) pa_nil)))))
      (pss_cons (ps_if (pt_cmpR op_ne (pe_c C_op hr (by decide) rfl (pa_cons pe_str (pa_cons (pe_c C_op hr (by decide) rfl (pa_cons pe_str (pa_cons (pe_c C_op hr (by decide) rfl (pa_cons pe_str (pa_cons (pv 0) (pa_cons (pv 1) pa_nil)))) (pa_cons (pv 1) pa_nil)))) (pa_cons (pv 4) pa_nil)))) (pv 0) (nomark _)) (pss_one (ps_ret pe_bl)) pss_nil)
      (pss_cons (ps_if (PW.pt (pw_and (pt_cmpR op_ne (pv 4) pe_int (nomark _)) (pw_and1 (pt_cmpR op_ne (pe_cmpR op_lt (pv 4) pe_int (nomark _)) (pe_cmpR op_lt (pv 0) pe_int (nomark _)) (nomark _))))) (pss_one (ps_ret pe_bl)) pss_nil)
      (pss_one (ps_ret (pe_cmpR op_lt (pe_callB (call_max2 rfl) rfl T.n_max (by rfl) (pa_cons (pv 4) (pa_cons (pe_un un_neg (pv 4)) pa_nil))) (pe_callB (call_max2 rfl) rfl T.n_max (by rfl) (pa_cons (pv 1) (pa_cons (pe_un un_neg (pv 1)) pa_nil))) (nomark _))))))))))), ?_⟩
    have hp : (r % 16).toNat ≤ 16 := by omega
    have pp : (0 : Int) < 2 ^ (r % 16).toNat := Int.pow_pos (by decide)
    have ps : ((2 : Int) ^ (r % 16).toNat).natAbs.log2 ≤ 2000000 := sm (Nat.lt_of_lt_of_le (pow_small hp) (by decide))
    have dw : Wd (l / 2 ^ (r % 16).toNat) := by
      refine ⟨?_, ?_⟩
      · rw [Int.le_ediv_iff_mul_le pp]
        have : 32768 * (2 : Int) ^ (r % 16).toNat ≥ 32768 * 1 := Int.mul_le_mul_of_nonneg_left pp (by decide)
        have := hl.1
        omega
      · have h1 : l / 2 ^ (r % 16).toNat ≤ 32767 / 2 ^ (r % 16).toNat := Int.ediv_le_ediv pp hl.2
        have h2 : (32767 : Int) / 2 ^ (r % 16).toNat ≤ 32767 := Int.ediv_le_self _ (by decide)
        omega
    have f1 : l / 2 ^ (r % 16).toNat * 2 ^ (r % 16).toNat ≤ l := Int.ediv_mul_le l (Int.ne_of_gt pp)
    have f2 : l < (l / 2 ^ (r % 16).toNat + 1) * 2 ^ (r % 16).toNat := Int.lt_ediv_add_one_mul_self l pp
    refine ⟨_, rfl, .inl ⟨_, rfl, _, _, rfl, rfl, (by show (0 : Int) < 16; decide), r % 16, rfl, by omega, by omega, ?_⟩⟩
    refine ⟨_, rfl, _, rfl, .shr, _, _, rfl, hl, h2, ?_⟩
    refine ⟨_, rfl, _, rfl, l / 2 ^ (r % 16).toNat, _, rfl, rfl, mulX dw.lg ps, _, rfl, _, _, rfl, rfl, _, rfl, ifNo (decide_eq_false (by omega)) ?_⟩
    refine ⟨_, rfl, l / 2 ^ (r % 16).toNat, _, rfl, rfl, _, rfl, l / 2 ^ (r % 16).toNat + 1, _, rfl, rfl, mulX (sm (by obtain ⟨z1, z2⟩ := dw; omega)) ps, _, rfl, _, _, rfl, rfl, _, rfl, ifNo (decide_eq_false (by omega)) ?_⟩
    refine ⟨_, rfl, rfl, _, rfl, ifB (fun e => ?_) (fun e => ?_)⟩
    · have e0 : r = 0 := V.int.inj (of_decide_eq_true e)
      have o1 : opV .div l r = .non := if_pos e0
      have o2 : opV .rem l r = .non := if_pos e0
      refine ⟨_, rfl, _, rfl, .div, _, _, rfl, hl, h2, ?_⟩
      rw [o1]
      refine ⟨rfl, _, rfl, ifYes (by decide) ⟨_, rfl, _, rfl, .rem, _, _, rfl, hl, h2, ?_⟩⟩
      rw [o2]
      exact ⟨rfl, q⟩
    · have h0 : r ≠ 0 := fun z => of_decide_eq_false e (congrArg V.int z)
      have o1 : opV .div l r = .int (wr (quo l r)) := if_neg h0
      have o2 : opV .rem l r = .int (l - r * quo l r) := if_neg h0
      obtain ⟨m, hm, lt, sg, _, _⟩ := quo_at l h0
      have em : l - r * quo l r = m := by omega
      have wm : Wd m := by
        obtain ⟨z1, z2⟩ := h2
        unfold ab at lt
        refine ⟨?_, ?_⟩ <;> split at lt <;> split at lt <;> omega
      refine ⟨_, rfl, _, rfl, .rem, _, _, rfl, hl, h2, ?_⟩
      rw [o2, em]
      refine ⟨_, rfl, _, rfl, .div, _, _, rfl, hl, h2, ?_⟩
      rw [o1]
      refine ⟨_, rfl, .mul, _, _, rfl, wr_wd _, h2, _, rfl, .add, _, _, rfl, wr_wd _, wm, _, rfl, rfl, _, rfl, neqF (congrArg V.int ?_) ?_⟩
      · have z := wr_back hl h0
        rw [em] at z
        exact z
      have fin : Q (.bl (decide (ab m < ab r))) H := by
        rw [decide_eq_true lt]
        exact q
      have tail : decide ((if -m > m then -m else m) < (if -r > r then -r else r)) = decide (ab m < ab r) := by
        have e1 : (if -m > m then -m else m) = ab m := by
          unfold ab
          split <;> split <;> omega
        have e2 : (if -r > r then -r else r) = ab r := by
          unfold ab
          split <;> split <;> omega
        rw [e1, e2]
      rw [← tail] at fin
      refine ⟨_, rfl, rfl, _, rfl, ifB (fun e1 => ?_) (fun e1 => ?_)⟩
      · have hm0 : m ≠ 0 := fun z => by
          subst z
          rw [decide_eq_true rfl] at e1
          cases e1
        have sg2 : decide (m < 0) = decide (l < 0) := by
          rcases sg with z | z
          · exact absurd z hm0
          · exact decide_eq_decide.mpr z
        refine ⟨_, rfl, _, _, rfl, rfl, _, rfl, _, _, rfl, rfl, rfl, _, rfl, neqF (congrArg V.bl sg2) ?_⟩
        exact ⟨_, rfl, _, rfl, _, rfl, _, _, rfl, _, rfl, _, rfl, _, rfl, _, _, rfl, _, _, rfl, rfl, fin⟩
      · refine iteF ?_
        exact ⟨_, rfl, _, rfl, _, rfl, _, _, rfl, _, rfl, _, rfl, _, rfl, _, _, rfl, _, _, rfl, rfl, fin⟩
end
end Pf
set_option Elab.async false
set_option linter.all false
set_option maxRecDepth 100000
set_option maxHeartbeats 4000000
namespace Pf
open PySem PySem.Spec PyProof.Rows L2 Wc
open C8 (Cal pe_c pe_gc)
section
variable {P : Program} {w : World} {K : PySem.W.Frag} {mg : Str → Option Value} {base : Heap}
def spCmp : Sp := fun vs H Q _ => ∃ (l r : Int), vs = [.int l, .int r] ∧ Wd l ∧ Wd r ∧ ∀ H', Same H H' → Q (.bl true) H'
theorem dp3 {H : Hp} (a b c : Int) : DpAll K H [.int a, .int b, .int c] [.int a, .int b, .int c] := .cons (.int a) (.cons (.int b) (.cons (.int c) .nil))
theorem eqv3 (a b c : Int) : PyData.eqv (.list [.int a, .int b, .int c]) (.list [.int a, .int b, .int c]) = true := by
  simp [PyData.eqv, PyData.eqvAll]
theorem c_cmp (T : Txt w K mg) : Cal P w K mg base 4 "_law_compared" spCmp [] := by
  have C_op := c_op (P := P) (w := w) (base := base) T
  refine calD T.d__law_compared T.g__law_compared (fun _ _ _ _ _ _ us hl => match us, hl with | [_, _], _ => rfl) sc__law_compared (fun vs H Q E h => ?_) (fun cdv A outer s H vs Q E hr h => ?_)
  · obtain ⟨a, b, rfl, _⟩ := h
    rfl
  · obtain ⟨l, r, rfl, hl, h2, q⟩ := h
    refine ⟨_, (pss_cons (ps_set (i := 2) sc__law_compared.nd rfl (Or.inl rfl) (pe_c C_op hr (by decide) rfl (pa_cons pe_str (pa_cons (pv 0) (pa_cons (pv 1) pa_nil)))))
      (pss_cons (ps_set (i := 3) sc__law_compared.nd rfl (Or.inl rfl) (pe_c C_op hr (by decide) rfl (pa_cons pe_str (pa_cons (pv 0) (pa_cons (pv 1) pa_nil)))))
      (pss_cons (ps_set (i := 4) sc__law_compared.nd rfl (Or.inl rfl) (pe_c C_op hr (by decide) rfl (pa_cons pe_str (pa_cons (pv 0) (pa_cons (pv 1) pa_nil)))))
      (pss_cons (ps_if (PW.pt (pw_or (pt_cmpR (op_neD hr.units) (pe_callB cr_sorted rfl T.n_sorted (by rfl) (pa_cons (pe_lst (pa_cons (pv 2) (pa_cons (pv 3) (pa_cons (pv 4) pa_nil)))) pa_nil)) (pe_lst (pa_cons pe_int (pa_cons pe_int (pa_cons pe_int pa_nil)))) (nomark _)) (pw_or (pt_cmpR op_ne (pv 2) (pe_c C_op hr (by decide) rfl (pa_cons pe_str (pa_cons (pv 1) (pa_cons (pv 0) pa_nil)))) (nomark _)) (pw_or1 (pt_cmpR op_ne (pv 3) (pe_c C_op hr (by decide) rfl (pa_cons pe_str (pa_cons (pv 1) (pa_cons (pv 0) pa_nil)))) (nomark _)))))) (pss_one (ps_ret pe_bl)) pss_nil)
      (pss_cons (ps_if (PW.pt (pw_or (pt_cmpR op_ne (pe_cmpR op_eq (pv 2) pe_int (nomark _)) (pe_cmpR op_lt (pv 0) (pv 1) (nomark _)) (nomark _)) (pw_or1 (pt_cmpR op_ne (pe_cmpR op_eq (pv 3) pe_int (nomark _)) (pe_cmpR op_eq (pv 0) (pv 1) (nomark _)) (nomark _))))) (pss_one (ps_ret pe_bl)) pss_nil)
      (pss_one (ps_ret (pe_cmpR (op_eqD hr.units) (pe_lst (pa_cons (pe_c C_op hr (by decide) rfl (pa_cons pe_str (pa_cons (pv 0) (pa_cons (pv 1) pa_nil)))) (pa_cons (pe_c C_op hr (by decide) rfl (pa_cons pe_str (pa_cons (pv 0) (pa_cons (pv 1) pa_nil)))) (pa_cons (pe_c C_op hr (by decide) rfl (pa_cons pe_str (pa_cons (pv 0) (pa_cons (pv 1) pa_nil)))) pa_nil)))) (pe_lst (pa_cons (pe_op op_sub pe_int (pv 4)) (pa_cons (pe_op op_sub pe_int (pv 2)) (pa_cons (pe_op op_sub pe_int (pv 3)) pa_nil)))) (nomark _))))))))), ?_⟩
    refine ⟨_, rfl, _, rfl, .lt, _, _, rfl, hl, h2, ?_⟩
    refine ⟨_, rfl, _, rfl, .eq, _, _, rfl, hl, h2, ?_⟩
    refine ⟨_, rfl, _, rfl, .gt, _, _, rfl, hl, h2, ?_⟩
    have perm : ∀ ns : List Int, ns.Perm [b01 (decide (l < r)), b01 (decide (l = r)), b01 (decide (r < l))] → ns.Pairwise (· ≤ ·) → ns = [0, 0, 1] := by
      intro ns hp hs
      refine PySem.W.ksm_same (hp.trans ?_) hs (by decide)
      rcases Int.lt_trichotomy l r with o | o | o
      · rw [decide_eq_true o, decide_eq_false (show ¬ l = r by omega), decide_eq_false (show ¬ r < l by omega)]
        decide
      · rw [decide_eq_false (show ¬ l < r by omega), decide_eq_true o, decide_eq_false (show ¬ r < l by omega)]
        decide
      · rw [decide_eq_false (show ¬ l < r by omega), decide_eq_false (show ¬ l = r by omega), decide_eq_true o]
        decide
    refine ⟨_, rfl, _, rfl, _, rfl, by show 3 ≤ sizeLine; decide, fun u nu => ?_⟩
    refine ⟨u, [b01 (decide (l < r)), b01 (decide (l = r)), b01 (decide (r < l))], rfl, SqL.of upd_same, by show 3 < 64; decide, fun ns p hp hs np => ?_⟩
    have e := perm ns hp hs
    subst e
    refine ⟨by show 3 ≤ sizeLine; decide, fun v nv => ?_⟩
    have npv : p ≠ v := ne_of_none upd_same nv
    refine ⟨.list [.int 0, .int 0, .int 1], .list [.int 0, .int 0, .int 1], Dp.lst (SqL.of (by rw [upd_ne npv]; exact upd_same)) (dp3 0 0 1), Dp.lst (SqL.of upd_same) (dp3 0 0 1), by decide +kernel, by decide +kernel, _, rfl, ifNo (by decide +kernel) ?_⟩
    have sm : Same H (upd (upd (upd H u (.lst [.int (b01 (decide (l < r))), .int (b01 (decide (l = r))), .int (b01 (decide (r < l)))])) p (.lst (([0, 0, 1] : List Int).map V.int))) v (.lst [.int 0, .int 0, .int 1])) := ((Same_upd nu).trans (Same_upd np)).trans (Same_upd nv)
    refine ⟨_, rfl, _, rfl, _, rfl, .gt, _, _, rfl, h2, hl, rfl, _, rfl, neqF rfl ?_⟩
    refine ⟨_, rfl, _, rfl, _, rfl, .eq, _, _, rfl, h2, hl, rfl, _, rfl, neqF (congrArg (fun z => V.int (b01 z)) (decide_eq_decide.mpr ⟨Eq.symm, Eq.symm⟩)) ?_⟩
    refine ⟨_, rfl, rfl, _, rfl, _, rfl, _, _, rfl, rfl, rfl, _, rfl, neqF (congrArg V.bl (show decide (V.int (b01 (decide (l < r))) = V.int 1) = decide (l < r) from ?_)) ?_⟩
    · by_cases o : l < r
      · rw [decide_eq_true o]
        rfl
      · rw [decide_eq_false o]
        rfl
    refine ⟨_, rfl, rfl, _, rfl, _, rfl, rfl, rfl, _, rfl, neqF (congrArg V.bl (show decide (V.int (b01 (decide (l = r))) = V.int 1) = decide (V.int l = V.int r) from ?_)) ?_⟩
    · by_cases o : l = r
      · rw [decide_eq_true o, decide_eq_true (congrArg V.int o)]
        rfl
      · rw [decide_eq_false o, decide_eq_false (fun z => o (V.int.inj z))]
        rfl
    refine ⟨_, rfl, _, rfl, .le, _, _, rfl, hl, h2, _, rfl, _, rfl, .ge, _, _, rfl, hl, h2, _, rfl, _, rfl, .ne, _, _, rfl, hl, h2, by show 3 ≤ sizeLine; decide, fun x nx => ?_⟩
    refine ⟨_, rfl, _, _, rfl, rfl, _, rfl, _, _, rfl, rfl, _, rfl, _, _, rfl, rfl, by show 3 ≤ sizeLine; decide, fun y ny => ?_⟩
    have nxy : x ≠ y := ne_of_none upd_same ny
    have sm2 := (sm.trans (Same_upd (o := .lst [.int (b01 (decide (l ≤ r))), .int (b01 (decide (r ≤ l))), .int (b01 (!decide (l = r)))]) nx)).trans (Same_upd (o := .lst [.int (1 - b01 (decide (r < l))), .int (1 - b01 (decide (l < r))), .int (1 - b01 (decide (l = r)))]) ny)
    have c1 : 1 - b01 (decide (r < l)) = b01 (decide (l ≤ r)) := by
      by_cases o : r < l
      · rw [decide_eq_true o, decide_eq_false (show ¬ l ≤ r by omega)]
        rfl
      · rw [decide_eq_false o, decide_eq_true (show l ≤ r by omega)]
        rfl
    have c2 : 1 - b01 (decide (l < r)) = b01 (decide (r ≤ l)) := by
      by_cases o : l < r
      · rw [decide_eq_true o, decide_eq_false (show ¬ r ≤ l by omega)]
        rfl
      · rw [decide_eq_false o, decide_eq_true (show r ≤ l by omega)]
        rfl
    have c3 : 1 - b01 (decide (l = r)) = b01 (!decide (l = r)) := by
      by_cases o : l = r
      · rw [decide_eq_true o]
        rfl
      · rw [decide_eq_false o]
        rfl
    refine ⟨.list [.int (b01 (decide (l ≤ r))), .int (b01 (decide (r ≤ l))), .int (b01 (!decide (l = r)))], .list [.int (b01 (decide (l ≤ r))), .int (b01 (decide (r ≤ l))), .int (b01 (!decide (l = r)))], Dp.lst (SqL.of (by rw [upd_ne nxy]; exact upd_same)) (dp3 _ _ _), Dp.lst (SqL.of (upd_same.trans ?_)) (dp3 _ _ _), rfl, rfl, ?_⟩
    · show some (HO.lst [.int (1 - b01 (decide (r < l))), .int (1 - b01 (decide (l < r))), .int (1 - b01 (decide (l = r)))]) = _
      rw [c1, c2, c3]
    · rw [eqv3]
      exact q _ sm2
def spLaw (K : PySem.W.Frag) : Sp := fun vs H Q _ => ∃ (a : Addr) (ns : List Int), vs = [.ref a] ∧ SqL K H a (ns.map V.int) ∧ ns.length ≤ 63 ∧ (∀ n ∈ ns, Builtin.Int.intBits n ≤ 1048576) ∧ ∀ H', Q (.bl true) H'
def LawI (a : Addr) (H0 : Hp) : Nat → L2.St → Hp → Prop := fun _ σ H => ∃ x1 x2 x3 x4 x5, σ = [some (V.ref a), x1, x2, x3, x4, x5] ∧ Same H0 H
theorem c_law {fd : FuncData} (T : Txt w K mg) (F : FnP K "law" s_law (He.ga K "law") fd) : FnOk P w K mg base CX0 5 (He.ga K "law") fd ["script"] (spLaw K) := by
  have C__law_draw := c_draw (P := P) (w := w) (base := base) T
  have C__law_bag := c_bag (P := P) (w := w) (base := base) T
  have C__law_integer := c_integer (P := P) (w := w) (base := base) T
  have C__law_ring := c_ring (P := P) (w := w) (base := base) T
  have C__law_division := c_div (P := P) (w := w) (base := base) T
  have C__law_compared := c_cmp (P := P) (w := w) (base := base) T
  have C_wrap := c_wrap (P := P) (w := w) (base := base) T
  refine fnD F sc_law (fun vs H Q E h => ?_) (fun cdv A outer s H vs Q E hr h => ?_)
  · obtain ⟨p, ns, rfl, _⟩ := h
    rfl
  · obtain ⟨a, ns, rfl, hS, hlen, hb, q⟩ := h
    refine ⟨_, (pss_cons (ps_for PassesOwn.never rfl (pi_range1 rfl T.n_range (pa_cons (pe_callB (call_max2 rfl) rfl T.n_max (by rfl) (pa_cons pe_int (pa_cons (pe_callB (call_min2 rfl) rfl T.n_min (by rfl) (pa_cons pe_int (pa_cons (pe_callB call_len_seq rfl T.n_len (by rfl) (pa_cons (pv 0) pa_nil)) pa_nil))) pa_nil))) pa_nil)) (pg_name (i := 1) sc_law.nd rfl (Or.inl rfl))
      (pss_cons (ps_set (i := 2) sc_law.nd rfl (Or.inl rfl) (pe_c C__law_bag hr (by decide) rfl (pa_cons (pv 0) (pa_cons (pv 1) pa_nil))))
      (pss_cons (ps_set (i := 3) sc_law.nd rfl (Or.inl rfl) (pe_c C__law_integer hr (by decide) rfl (pa_cons (pv 2) pa_nil)))
      (pss_cons (ps_set (i := 4) sc_law.nd rfl (Or.inl rfl) (pe_c C__law_integer hr (by decide) rfl (pa_cons (pv 2) pa_nil)))
      (pss_cons (ps_set (i := 5) sc_law.nd rfl (Or.inl rfl) (pe_c C__law_integer hr (by decide) rfl (pa_cons (pv 2) pa_nil)))
      (pss_cons (ps_if (pt_cmpR op_eq (pe_c C__law_draw hr (by decide) rfl (pa_cons (pv 2) (pa_cons pe_int pa_nil))) pe_int (nomark _)) (pss_one (ps_set (i := 4) sc_law.nd rfl (Or.inl rfl) (pe_op op_add (pv 3) (pe_op op_mulX pe_int (pv 5))))) pss_nil)
      (pss_cons (ps_if (pt_not (pt_val (pe_c C__law_ring hr (by decide) rfl (pa_cons (pv 3) (pa_cons (pv 4) (pa_cons (pv 5) pa_nil)))))) (pss_one (ps_ret pe_bl)) pss_nil)
      (pss_one (ps_if (PW.pt (pw_or (pt_not (pt_val (pe_c C__law_division hr (by decide) rfl (pa_cons (pe_c C_wrap hr (by decide) rfl (pa_cons (pv 3) pa_nil)) (pa_cons (pe_c C_wrap hr (by decide) rfl (pa_cons (pv 4) pa_nil)) pa_nil))))) (pw_or1 (pt_not (pt_val (pe_c C__law_compared hr (by decide) rfl (pa_cons (pe_c C_wrap hr (by decide) rfl (pa_cons (pv 3) pa_nil)) (pa_cons (pe_c C_wrap hr (by decide) rfl (pa_cons (pv 4) pa_nil)) pa_nil)))))))) (pss_one (ps_ret pe_bl)) pss_nil)))))))))
      (pss_one (ps_ret pe_bl))), ?_⟩
    have hl : (ns.map V.int).length = ns.length := List.length_map _
    refine ⟨_, rfl, a, _, rfl, .inl hS, _, _, rfl, _, _, rfl, _, rfl, ?_, ?_, ?_⟩
    · split <;> (try split) <;> omega
    · split <;> (try split) <;> omega
    generalize hJ : Int.toNat _ = J
    have hJ2 : J ≤ 63 := by
      rw [← hJ]
      split <;> (try split) <;> omega
    refine for_range (LawI a H) ⟨_, _, _, _, _, rfl, Same.refl _⟩ ?_ ?_
    · rintro i σ H0 hi ⟨x1, x2, x3, x4, x5, rfl, s0⟩
      refine ⟨_, rfl, _, rfl, a, ns, _, rfl, s0.seq hS, hb, (by omega), (by omega), fun p H1 np bg s1 => ?_⟩
      have nH : H p = none := s0.free np
      refine ⟨_, rfl, p, rfl, bg, fun one H2 h1 bg2 k2 => ?_⟩
      refine ⟨_, rfl, p, rfl, bg2, fun two H3 h2 bg3 k3 => ?_⟩
      refine ⟨_, rfl, p, rfl, bg3, fun three H4 h3 bg4 k4 => ?_⟩
      refine ⟨_, rfl, p, 4, rfl, bg4, by decide, by decide, fun z H5 lo hi2 bg5 k5 => ?_⟩
      have sm5 : Same H H5 := Keep.same (s0.trans s1) nH (((k2.trans k3).trans k4).trans k5)
      refine ⟨rfl, _, rfl, ifB (fun _ => ?_) (fun _ => ?_)⟩
      · refine ⟨_, rfl, _, rfl, _, _, rfl, rfl, mulX (by decide) (sm (by omega)), _, _, rfl, rfl, ?_⟩
        refine ⟨_, rfl, _, rfl, _, rfl, _, _, _, rfl, by omega, by omega, fun H6 s6 => ⟨_, rfl, iteF ?_⟩⟩
        refine ⟨_, rfl, _, rfl, _, rfl, _, rfl, _, _, rfl, wr_wd _, wr_wd _, _, rfl, iteF ?_⟩
        refine ⟨_, rfl, _, rfl, _, rfl, _, rfl, _, _, rfl, wr_wd _, wr_wd _, fun H7 s7 => ⟨_, rfl, iteF ?_⟩⟩
        exact ⟨_, _, _, _, _, rfl, (sm5.trans s6).trans s7⟩
      · refine ⟨_, rfl, _, rfl, _, rfl, _, _, _, rfl, by omega, by omega, fun H6 s6 => ⟨_, rfl, iteF ?_⟩⟩
        refine ⟨_, rfl, _, rfl, _, rfl, _, rfl, _, _, rfl, wr_wd _, wr_wd _, _, rfl, iteF ?_⟩
        refine ⟨_, rfl, _, rfl, _, rfl, _, rfl, _, _, rfl, wr_wd _, wr_wd _, fun H7 s7 => ⟨_, rfl, iteF ?_⟩⟩
        exact ⟨_, _, _, _, _, rfl, (sm5.trans s6).trans s7⟩
    · rintro σ H0 ⟨x1, x2, x3, x4, x5, rfl, s0⟩
      exact q H0
end
def dd_wrap : He.DefD := ⟨("wrap", none), "wrap", "wrap", defArgs s_wrap, defBody s_wrap, defScope s_wrap, [], []⟩
def dd__plus : He.DefD := ⟨("_plus", none), "_plus", "_plus", defArgs s__plus, defBody s__plus, defScope s__plus, [], []⟩
def dd__minus : He.DefD := ⟨("_minus", none), "_minus", "_minus", defArgs s__minus, defBody s__minus, defScope s__minus, [], []⟩
def dd__times : He.DefD := ⟨("_times", none), "_times", "_times", defArgs s__times, defBody s__times, defScope s__times, [], []⟩
def dd__quotient : He.DefD := ⟨("_quotient", none), "_quotient", "_quotient", defArgs s__quotient, defBody s__quotient, defScope s__quotient, [], []⟩
def dd__divide : He.DefD := ⟨("_divide", none), "_divide", "_divide", defArgs s__divide, defBody s__divide, defScope s__divide, [], []⟩
def dd__rest : He.DefD := ⟨("_rest", none), "_rest", "_rest", defArgs s__rest, defBody s__rest, defScope s__rest, [], []⟩
def dd__both_bits : He.DefD := ⟨("_both_bits", none), "_both_bits", "_both_bits", defArgs s__both_bits, defBody s__both_bits, defScope s__both_bits, [], []⟩
def dd__any_bits : He.DefD := ⟨("_any_bits", none), "_any_bits", "_any_bits", defArgs s__any_bits, defBody s__any_bits, defScope s__any_bits, [], []⟩
def dd__other_bits : He.DefD := ⟨("_other_bits", none), "_other_bits", "_other_bits", defArgs s__other_bits, defBody s__other_bits, defScope s__other_bits, [], []⟩
def dd__up : He.DefD := ⟨("_up", none), "_up", "_up", defArgs s__up, defBody s__up, defScope s__up, [], []⟩
def dd__down : He.DefD := ⟨("_down", none), "_down", "_down", defArgs s__down, defBody s__down, defScope s__down, [], []⟩
def dd__equal : He.DefD := ⟨("_equal", none), "_equal", "_equal", defArgs s__equal, defBody s__equal, defScope s__equal, [], []⟩
def dd__unequal : He.DefD := ⟨("_unequal", none), "_unequal", "_unequal", defArgs s__unequal, defBody s__unequal, defScope s__unequal, [], []⟩
def dd__less : He.DefD := ⟨("_less", none), "_less", "_less", defArgs s__less, defBody s__less, defScope s__less, [], []⟩
def dd__at_most : He.DefD := ⟨("_at_most", none), "_at_most", "_at_most", defArgs s__at_most, defBody s__at_most, defScope s__at_most, [], []⟩
def dd__more : He.DefD := ⟨("_more", none), "_more", "_more", defArgs s__more, defBody s__more, defScope s__more, [], []⟩
def dd__at_least : He.DefD := ⟨("_at_least", none), "_at_least", "_at_least", defArgs s__at_least, defBody s__at_least, defScope s__at_least, [], []⟩
def dd_op : He.DefD := ⟨("op", none), "op", "op", defArgs s_op, defBody s_op, defScope s_op, [], []⟩
def dd__law_bag : He.DefD := ⟨("_law_bag", none), "_law_bag", "_law_bag", defArgs s__law_bag, defBody s__law_bag, defScope s__law_bag, [], []⟩
def dd__law_draw : He.DefD := ⟨("_law_draw", none), "_law_draw", "_law_draw", defArgs s__law_draw, defBody s__law_draw, defScope s__law_draw, [], []⟩
def dd__law_integer : He.DefD := ⟨("_law_integer", none), "_law_integer", "_law_integer", defArgs s__law_integer, defBody s__law_integer, defScope s__law_integer, [], []⟩
def dd__law_power : He.DefD := ⟨("_law_power", none), "_law_power", "_law_power", defArgs s__law_power, defBody s__law_power, defScope s__law_power, [], []⟩
def dd__law_ring : He.DefD := ⟨("_law_ring", none), "_law_ring", "_law_ring", defArgs s__law_ring, defBody s__law_ring, defScope s__law_ring, [], []⟩
def dd__law_division : He.DefD := ⟨("_law_division", none), "_law_division", "_law_division", defArgs s__law_division, defBody s__law_division, defScope s__law_division, [], []⟩
def dd__law_compared : He.DefD := ⟨("_law_compared", none), "_law_compared", "_law_compared", defArgs s__law_compared, defBody s__law_compared, defScope s__law_compared, [], []⟩
def dd_law : He.DefD := ⟨("law", none), "law", "law", defArgs s_law, defBody s_law, defScope s_law, [], []⟩
def fns : List He.DefD := [dd_wrap, dd__plus, dd__minus, dd__times, dd__quotient, dd__divide, dd__rest, dd__both_bits, dd__any_bits, dd__other_bits, dd__up, dd__down, dd__equal, dd__unequal, dd__less, dd__at_most, dd__more, dd__at_least, dd_op, dd__law_bag, dd__law_draw, dd__law_integer, dd__law_power, dd__law_ring, dd__law_division, dd__law_compared, dd_law]
def facts : List He.Fa := [.glo "wrap", .glo "_plus", .glo "_minus", .glo "_times", .glo "_quotient", .glo "_divide", .glo "_rest", .glo "_both_bits", .glo "_any_bits", .glo "_other_bits", .glo "_up", .glo "_down", .glo "_equal", .glo "_unequal", .glo "_less", .glo "_at_most", .glo "_more", .glo "_at_least", .glo "op", .glo "_law_bag", .glo "_law_draw", .glo "_law_integer", .glo "_law_power", .glo "_law_ring", .glo "_law_division", .glo "_law_compared", .glo "law", .free "abs", .free "int", .free "len", .free "max", .free "min", .free "range", .free "sorted", .glo "ACTIONS"]
def tabs : List He.Tab := [(fun K => He.ga K "ACTIONS", ["+", "-", "*", "/", "mod", "&", "|", "^", "<<", ">>", "==", "!=", "<", "<=", ">", ">="])]
def ex (K : PySem.W.Frag) : Bool := He.valsB K (He.ga K "ACTIONS") v_ACTIONS && (true)
theorem ex_0 {K : PySem.W.Frag} (h : ex K = true) : He.valsB K (He.ga K "ACTIONS") v_ACTIONS = true := (He.ba h).1
theorem txt_of {w : World} {K : PySem.W.Frag} {h : Heap} {mg : Str → Option Value} (X : K.In h) (G : h.Ns mainGlobals mg) (c : He.SaysX facts fns tabs [] ex w h K) : Txt w K mg where
  d_wrap := c.t.d.def_ 0 (d := dd_wrap) rfl
  g_wrap := He.glo_ok X G (c.t.d.fact 0 (f := .glo "wrap") rfl)
  d__plus := c.t.d.def_ 1 (d := dd__plus) rfl
  g__plus := He.glo_ok X G (c.t.d.fact 1 (f := .glo "_plus") rfl)
  d__minus := c.t.d.def_ 2 (d := dd__minus) rfl
  g__minus := He.glo_ok X G (c.t.d.fact 2 (f := .glo "_minus") rfl)
  d__times := c.t.d.def_ 3 (d := dd__times) rfl
  g__times := He.glo_ok X G (c.t.d.fact 3 (f := .glo "_times") rfl)
  d__quotient := c.t.d.def_ 4 (d := dd__quotient) rfl
  g__quotient := He.glo_ok X G (c.t.d.fact 4 (f := .glo "_quotient") rfl)
  d__divide := c.t.d.def_ 5 (d := dd__divide) rfl
  g__divide := He.glo_ok X G (c.t.d.fact 5 (f := .glo "_divide") rfl)
  d__rest := c.t.d.def_ 6 (d := dd__rest) rfl
  g__rest := He.glo_ok X G (c.t.d.fact 6 (f := .glo "_rest") rfl)
  d__both_bits := c.t.d.def_ 7 (d := dd__both_bits) rfl
  g__both_bits := He.glo_ok X G (c.t.d.fact 7 (f := .glo "_both_bits") rfl)
  d__any_bits := c.t.d.def_ 8 (d := dd__any_bits) rfl
  g__any_bits := He.glo_ok X G (c.t.d.fact 8 (f := .glo "_any_bits") rfl)
  d__other_bits := c.t.d.def_ 9 (d := dd__other_bits) rfl
  g__other_bits := He.glo_ok X G (c.t.d.fact 9 (f := .glo "_other_bits") rfl)
  d__up := c.t.d.def_ 10 (d := dd__up) rfl
  g__up := He.glo_ok X G (c.t.d.fact 10 (f := .glo "_up") rfl)
  d__down := c.t.d.def_ 11 (d := dd__down) rfl
  g__down := He.glo_ok X G (c.t.d.fact 11 (f := .glo "_down") rfl)
  d__equal := c.t.d.def_ 12 (d := dd__equal) rfl
  g__equal := He.glo_ok X G (c.t.d.fact 12 (f := .glo "_equal") rfl)
  d__unequal := c.t.d.def_ 13 (d := dd__unequal) rfl
  g__unequal := He.glo_ok X G (c.t.d.fact 13 (f := .glo "_unequal") rfl)
  d__less := c.t.d.def_ 14 (d := dd__less) rfl
  g__less := He.glo_ok X G (c.t.d.fact 14 (f := .glo "_less") rfl)
  d__at_most := c.t.d.def_ 15 (d := dd__at_most) rfl
  g__at_most := He.glo_ok X G (c.t.d.fact 15 (f := .glo "_at_most") rfl)
  d__more := c.t.d.def_ 16 (d := dd__more) rfl
  g__more := He.glo_ok X G (c.t.d.fact 16 (f := .glo "_more") rfl)
  d__at_least := c.t.d.def_ 17 (d := dd__at_least) rfl
  g__at_least := He.glo_ok X G (c.t.d.fact 17 (f := .glo "_at_least") rfl)
  d_op := c.t.d.def_ 18 (d := dd_op) rfl
  g_op := He.glo_ok X G (c.t.d.fact 18 (f := .glo "op") rfl)
  d__law_bag := c.t.d.def_ 19 (d := dd__law_bag) rfl
  g__law_bag := He.glo_ok X G (c.t.d.fact 19 (f := .glo "_law_bag") rfl)
  d__law_draw := c.t.d.def_ 20 (d := dd__law_draw) rfl
  g__law_draw := He.glo_ok X G (c.t.d.fact 20 (f := .glo "_law_draw") rfl)
  d__law_integer := c.t.d.def_ 21 (d := dd__law_integer) rfl
  g__law_integer := He.glo_ok X G (c.t.d.fact 21 (f := .glo "_law_integer") rfl)
  d__law_power := c.t.d.def_ 22 (d := dd__law_power) rfl
  g__law_power := He.glo_ok X G (c.t.d.fact 22 (f := .glo "_law_power") rfl)
  d__law_ring := c.t.d.def_ 23 (d := dd__law_ring) rfl
  g__law_ring := He.glo_ok X G (c.t.d.fact 23 (f := .glo "_law_ring") rfl)
  d__law_division := c.t.d.def_ 24 (d := dd__law_division) rfl
  g__law_division := He.glo_ok X G (c.t.d.fact 24 (f := .glo "_law_division") rfl)
  d__law_compared := c.t.d.def_ 25 (d := dd__law_compared) rfl
  g__law_compared := He.glo_ok X G (c.t.d.fact 25 (f := .glo "_law_compared") rfl)
  d_law := c.t.d.def_ 26 (d := dd_law) rfl
  g_law := He.glo_ok X G (c.t.d.fact 26 (f := .glo "law") rfl)
  n_abs := He.free_ok X G (c.t.d.fact 27 (f := .free "abs") rfl)
  n_int := He.free_ok X G (c.t.d.fact 28 (f := .free "int") rfl)
  n_len := He.free_ok X G (c.t.d.fact 29 (f := .free "len") rfl)
  n_max := He.free_ok X G (c.t.d.fact 30 (f := .free "max") rfl)
  n_min := He.free_ok X G (c.t.d.fact 31 (f := .free "min") rfl)
  n_range := He.free_ok X G (c.t.d.fact 32 (f := .free "range") rfl)
  n_sorted := He.free_ok X G (c.t.d.fact 33 (f := .free "sorted") rfl)
  g_ACTIONS := He.glo_ok X G (c.t.d.fact 34 (f := .glo "ACTIONS") rfl)
  k_ACTIONS := c.t.tab 0 (t := (fun K => He.ga K "ACTIONS", ["+", "-", "*", "/", "mod", "&", "|", "^", "<<", ">>", "==", "!=", "<", "<=", ">", ">="])) rfl
  t_ACTIONS := kdct_of (c.t.tab 0 (t := (fun K => He.ga K "ACTIONS", ["+", "-", "*", "/", "mod", "&", "|", "^", "<<", ">>", "==", "!=", "<", "<=", ">", ">="])) rfl) (ex_0 c.more)
abbrev loose : List Str := (["wrap", "_plus", "_minus", "_times", "_quotient", "_divide", "_rest", "_both_bits", "_any_bits", "_other_bits", "_up", "_down", "_equal", "_unequal", "_less", "_at_most", "_more", "_at_least", "op", "_law_bag", "_law_draw", "_law_integer", "_law_power", "_law_ring", "_law_division", "_law_compared", "ACTIONS", "__name__"] : List Str)
abbrev Rr : PySem.W.OpenRow := PySem.W.OpenLaw.row PySem.Challenge.rw_warycard_k04_whole_words_are_numbers_by
abbrev hk : PySem.W.Hook := He.hookX 4 facts fns tabs [] ex
def ob (s : PySem.W.SharedT) : He.AlX := He.obsX 4 facts fns tabs [] ex (HandSHeadRun.getT s)
theorem ob_eq (s : PySem.W.SharedT) : ob s = hk.obs s.abs := He.obsX_eq (HandSHeadRun.getT_eq s)
theorem run (w : World) : HandSHeadRun.RunEq Rr (PySem.W.view Rr.prog [29]) hk ob 3000 loose w := by
  refine PySem.W.byRow2 "special-get-raises" (P := fun w => HandSHeadRun.RunEq Rr (PySem.W.view Rr.prog [29]) hk ob 3000 loose w) (fun w => ?_) (fun w => ?_) w
  · intro os
    kernel_rfl
  · intro os
    kernel_rfl

theorem law_of {P : Program} {w : World} {K : PySem.W.Frag} {mg : Str → Option Value} {fa : Addr} (T : Txt w K mg) (h : mg ("law" : Str) = some (.ref fa)) :
    ∃ (fd : FuncData) (sp : Sp), (∀ (s : Shared) (u : Value), BindsTo s fd ⟨[u], []⟩ [("script", u)]) ∧
      (∀ (H : Hp) (a : Addr) (ns : List Int), ns.length ≤ 63 → (∀ z ∈ ns, Builtin.Int.intBits z ≤ 1048576) → SqL K H a (ns.map V.int) → sp [.ref a] H (fun v _ => v = .bl true) fun _ _ _ => False) ∧
      ∀ base : Heap, K.In base → base.Ns mainGlobals mg → FnOk P w K mg base CX0 5 fa fd ["script"] sp :=
  lawD T.d_law T.g_law h (fun base fd F => c_law T F) (fun _ _ _ _ _ _ us hl => match us, hl with | [_], _ => rfl) fun H a ns hl hb hS => ⟨a, ns, rfl, hS, hl, hb, fun _ => rfl⟩
end Pf
open PySem PySem.W PySem.Calls PyProof.Rows
set_option maxRecDepth 100000 in
set_option maxHeartbeats 0 in
theorem PySem.Challenge.cw_warycard_k04_whole_words_are_numbers_by_holds : PySem.Challenge.rw_warycard_k04_whole_words_are_numbers_by.Holds := by
  w_on; o_law
  refine HandSHeadRun.head_any (r := OpenLaw.row PySem.Challenge.rw_warycard_k04_whole_words_are_numbers_by) (q := view (OpenLaw.row PySem.Challenge.rw_warycard_k04_whole_words_are_numbers_by).prog [29]) (H := Pf.hk) (ob := Pf.ob) (M := 3000) (loose := Pf.loose) (d := HandSHeadRun.topDef (OpenLaw.row PySem.Challenge.rw_warycard_k04_whole_words_are_numbers_by).prog 29) (kwd := []) Pf.ob_eq
    (by kernel_rfl) (fun s => by kernel_rfl) Pf.run (by kernel_rfl) (by kernel_rfl) (by kernel_rfl) (by rfl) (by first | assumption | decide +kernel) (by decide +kernel) ⟨rfl, rfl, rfl, rfl, rfl, by decide +kernel⟩ ?hw ?hc
  case hw => w_witness2
  case hc =>
    refine Wc.walk_bits (l := PySem.Challenge.rw_warycard_k04_whole_words_are_numbers_by) (n := 63) (k := 5) (x := "script") rfl (by decide) (by kernel_rfl) ⟨rfl, by decide, by decide⟩ ?F
    intro w mg fa h Y G hmg0
    obtain ⟨K, KX, c⟩ := Y
    have hmg : mg ("law" : PySem.Str) = some (.ref fa) := by
      have e : (HandSHeadRun.topDef (OpenLaw.row PySem.Challenge.rw_warycard_k04_whole_words_are_numbers_by).prog 29).name = ("law" : PySem.Str) := by kernel_rfl
      rw [← e]
      exact hmg0
    exact ⟨K, KX, Pf.law_of (w := w) (Pf.txt_of KX G c) hmg⟩
