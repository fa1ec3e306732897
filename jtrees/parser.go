package jtrees

import (
	"slices"

	"inarch/api"
	"inarch/decimals"
	"inarch/jtokens"
	"inarch/quotes"
)

// parser goes on through a document, token by token, up to the first fault.
type parser struct {
	b      []byte
	wanted wants  // what the next token may be
	stack  []open // the outermost one first
	nodes  []api.Node
}

func (p *parser) document() {
	for at := 0; at < len(p.b); {
		t, fault := jtokens.Next(p.b, at)
		if fault.Code != api.CoOK {
			fail(fault.Code, fault.At)
		}
		p.token(t)
		at = t.To
	}
	if p.wanted != nothing {
		fail(api.CoSyntax, len(p.b))
	}
}

func (p *parser) token(t jtokens.Token) {
	switch t.Kind {
	case jtokens.JtMark:
		p.mark(t)
	case jtokens.JtWord:
		p.word(t)
	case jtokens.JtNum:
		p.number(t)
	case jtokens.JtStr:
		p.text(t)
	}
}

// need one of these to be wanted; else the token may not stand here.
func (p *parser) need(w wants, t jtokens.Token) {
	if p.wanted&w == nothing {
		fail(api.CoSyntax, t.From)
	}
}

func (p *parser) bytes(t jtokens.Token) string { return string(p.b[t.From:t.To]) }

func (p *parser) word(t jtokens.Token) {
	p.need(aValue, t)
	if word := p.bytes(t); word != "null" {
		p.leaf(t, api.VkBool, word)
		return
	}
	p.leaf(t, api.VkNull, "")
}

func (p *parser) number(t jtokens.Token) {
	p.need(aValue, t)
	form, code := decimals.Read(p.bytes(t))
	if code != api.CoOK {
		fail(code, t.From)
	}
	p.leaf(t, api.VkNum, form)
}

func (p *parser) text(t jtokens.Token) {
	p.need(aValue|aKey, t)
	runes, fault := quotes.Read(p.bytes(t))
	if fault.Code != api.CoOK {
		fail(fault.Code, t.From+fault.At)
	}
	if p.wanted&aKey != nothing {
		p.key(t, runes)
		return
	}
	p.leaf(t, api.VkStr, runes)
}

// key of what is open, which is a map: nothing else wants one.
func (p *parser) key(t jtokens.Token, runes string) {
	o := p.top().(dict)
	if _, twice := o.known[runes]; twice {
		fail(api.CoDup, t.From)
	}
	o.known[runes] = struct{}{}
	n := &p.nodes[o.node()]
	n.Keys = append(n.Keys, runes)
	n.Spots = append(n.Spots, api.Span{From: t.From, To: t.To})
	p.wanted = aColon
}

func (p *parser) mark(t jtokens.Token) {
	switch p.b[t.From] {
	case '[':
		p.begin(t, api.VkList, list{len(p.nodes)})
	case '{':
		p.begin(t, api.VkMap, dict{len(p.nodes), map[string]struct{}{}})
	case ':':
		p.need(aColon, t)
		p.wanted = aValue
	case ',':
		p.need(aComma, t)
		p.wanted, _ = within(p.top())
	default:
		p.end(t)
	}
}

func (p *parser) begin(t jtokens.Token, kind api.Kind, o open) {
	p.need(aValue, t)
	if len(p.stack) == api.MaxDepth {
		fail(api.CoDepth, t.From)
	}
	p.add(t, kind, "")
	p.stack = append(p.stack, o)
	first, _ := within(o)
	p.wanted = first | anEnd
}

func (p *parser) end(t jtokens.Token) {
	p.need(anEnd, t)
	o := p.top()
	if _, end := within(o); p.b[t.From] != end {
		fail(api.CoSyntax, t.From)
	}
	n := &p.nodes[o.node()]
	n.Span.To = t.To
	n.Keys, n.Spots, n.Subs = slices.Clip(n.Keys), slices.Clip(n.Spots), slices.Clip(n.Subs)
	p.stack = p.stack[:len(p.stack)-1]
	p.goOn()
}

// leaf is a value of one token.
func (p *parser) leaf(t jtokens.Token, kind api.Kind, text string) {
	p.add(t, kind, text)
	p.goOn()
}

// add a value's node, as far as its first token tells it, to the tree, and to what it stands in.
func (p *parser) add(t jtokens.Token, kind api.Kind, text string) {
	if len(p.stack) > 0 {
		n := &p.nodes[p.top().node()]
		n.Subs = append(n.Subs, len(p.nodes))
	}
	p.nodes = append(p.nodes, api.Node{Kind: kind, Text: text, Span: api.Span{From: t.From, To: t.To}})
}

// goOn behind a value that is whole.
func (p *parser) goOn() {
	p.wanted = nothing
	if len(p.stack) > 0 {
		p.wanted = aComma | anEnd
	}
}

// top is the innermost one that is open.
func (p *parser) top() open { return p.stack[len(p.stack)-1] }
